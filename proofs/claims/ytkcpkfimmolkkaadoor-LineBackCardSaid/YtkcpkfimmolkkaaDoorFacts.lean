/- Joined: PhM CorrM ScramM HamM WeaveM LineM LineN. -/
import Derived.Laws.ComplexArith
import Derived.KernelRfl
/- Plain facts on points of a plane: turns, kinds, points of bytes, bytes of points. Nothing of the program is in here. -/
namespace Go.Proofs.YtkcpkfimmolkkaaDoor

abbrev Pt := Int × Int
def rot1 (p : Pt) : Pt := (-p.2, p.1)
def rotN : Nat → Pt → Pt
  | 0, p => p
  | n + 1, p => rotN n (rot1 p)
theorem rotN_succ (n : Nat) (p : Pt) : rotN (n + 1) p = rotN n (rot1 p) := rfl
theorem rotN_add (m n : Nat) : ∀ p, rotN (m + n) p = rotN n (rotN m p) := by
  induction m with
  | zero => intro p; simp [rotN]
  | succ m ih => intro p; rw [show m + 1 + n = (m + n) + 1 by omega, rotN_succ, ih, rotN_succ]
theorem rotN_four (p : Pt) : rotN 4 p = p := by simp [rotN, rot1]
theorem rotN_mod (n : Nat) (p : Pt) : rotN n p = rotN (n % 4) p := by
  induction n using Nat.strongRecOn generalizing p with
  | _ n ih =>
    by_cases h : n < 4
    · rw [Nat.mod_eq_of_lt h]
    · have e : n = 4 + (n - 4) := by omega
      rw [e, rotN_add, rotN_four, ih (n - 4) (by omega)]
      congr 1
      omega
/-- a number's rest by 4, from 0 on -/
def rest4 (k : Int) : Nat := (k % 4).toNat
theorem rest4_lt (k : Int) : rest4 k < 4 := by unfold rest4; omega
theorem rest4_cast (k : Int) : (rest4 k : Int) = k % 4 := by unfold rest4; omega
theorem rest4_nat (k : Nat) : rest4 (k : Int) = k % 4 := by unfold rest4; omega
def rotK (k : Int) (p : Pt) : Pt := rotN (rest4 k) p
theorem rotK_add (k n : Int) (p : Pt) : rotK n (rotK k p) = rotK (k + n) p := by
  unfold rotK
  rw [← rotN_add, rotN_mod]
  congr 1
  unfold rest4
  omega
theorem rot1_small {B : Int} {p : Pt} (h : -B ≤ p.1 ∧ p.1 ≤ B ∧ -B ≤ p.2 ∧ p.2 ≤ B) : -B ≤ (rot1 p).1 ∧ (rot1 p).1 ≤ B ∧ -B ≤ (rot1 p).2 ∧ (rot1 p).2 ≤ B := by
  unfold rot1; simp only; omega
theorem rotN_small {B : Int} (n : Nat) : ∀ {p : Pt}, (-B ≤ p.1 ∧ p.1 ≤ B ∧ -B ≤ p.2 ∧ p.2 ≤ B) → -B ≤ (rotN n p).1 ∧ (rotN n p).1 ≤ B ∧ -B ≤ (rotN n p).2 ∧ (rotN n p).2 ≤ B := by
  induction n with
  | zero => intro p h; exact h
  | succ n ih => intro p h; exact ih (rot1_small h)
def turnB (l : List Pt) (k : Int) : List Pt := l.map (rotK k)

/-- the four points -/
def unit (q : Nat) : Pt := rotN q (1, 1)
theorem unit_rot (q j : Nat) : rotN j (unit q) = unit ((q + j) % 4) := by
  unfold unit
  rw [← rotN_add, rotN_mod]
def kindI (p : Pt) : Int := if p = (1, 1) then 0 else if p = (-1, 1) then 1 else if p = (-1, -1) then 2 else if p = (1, -1) then 3 else -1
theorem kindI_unit (q : Nat) (h : q < 4) : kindI (unit q) = q := by
  match q, h with
  | 0, _ => rfl
  | 1, _ => decide +kernel
  | 2, _ => decide +kernel
  | 3, _ => decide +kernel
theorem kindI_range (p : Pt) : -1 ≤ kindI p ∧ kindI p ≤ 3 := by unfold kindI; repeat' split <;> omega
theorem kindI_unit_of (p : Pt) (h : 0 ≤ kindI p) : ∃ q, q < 4 ∧ p = unit q ∧ kindI p = q := by
  unfold kindI at h ⊢
  by_cases h0 : p = (1, 1)
  · exact ⟨0, by decide, h0, by rw [if_pos h0]; rfl⟩
  · rw [if_neg h0] at h ⊢
    by_cases h1 : p = (-1, 1)
    · exact ⟨1, by decide, h1.trans (by decide +kernel), by rw [if_pos h1]; rfl⟩
    · rw [if_neg h1] at h ⊢
      by_cases h2 : p = (-1, -1)
      · exact ⟨2, by decide, h2.trans (by decide +kernel), by rw [if_pos h2]; rfl⟩
      · rw [if_neg h2] at h ⊢
        by_cases h3 : p = (1, -1)
        · exact ⟨3, by decide, h3.trans (by decide +kernel), by rw [if_pos h3]; rfl⟩
        · rw [if_neg h3] at h
          omega
def sliceP (p : Pt) : Pt := (if 0 ≤ p.1 then 1 else -1, if 0 ≤ p.2 then 1 else -1)

/-- the two bits of a byte at place k, from the highest on -/
def twoB (c : UInt8) (k : Nat) : Nat := c.toNat / 4 ^ (3 - k) % 4
def stepsB (b : List UInt8) : List Nat := b.flatMap fun c => [twoB c 0, twoB c 1, twoB c 2, twoB c 3]
def walkP : Pt → List Nat → List Pt
  | _, [] => []
  | z, k :: r => rotN k z :: walkP (rotN k z) r
def endP (z : Pt) (s : List Nat) : Pt := s.foldl (fun z k => rotN k z) z
theorem walkP_append (z : Pt) (s t : List Nat) : walkP z (s ++ t) = walkP z s ++ walkP (endP z s) t := by
  induction s generalizing z with
  | nil => rfl
  | cons k r ih => simp only [List.cons_append, walkP, ih]; rfl
theorem endP_append (z : Pt) (s t : List Nat) : endP z (s ++ t) = endP (endP z s) t := by simp [endP, List.foldl_append]
theorem walkP_snoc (z : Pt) (s : List Nat) (k : Nat) : walkP z (s ++ [k]) = walkP z s ++ [rotN k (endP z s)] := walkP_append z s [k]
theorem endP_snoc (z : Pt) (s : List Nat) (k : Nat) : endP z (s ++ [k]) = rotN k (endP z s) := endP_append z s [k]
theorem walkP_len (z : Pt) (s : List Nat) : (walkP z s).length = s.length := by
  induction s generalizing z with
  | nil => rfl
  | cons k r ih => simp [walkP, ih]
theorem stepsB_len (b : List UInt8) : (stepsB b).length = 4 * b.length := by
  induction b with
  | nil => rfl
  | cons c r ih =>
    have e : stepsB (c :: r) = [twoB c 0, twoB c 1, twoB c 2, twoB c 3] ++ stepsB r := rfl
    rw [e, List.length_append, ih, List.length_cons]
    simp only [List.length_cons, List.length_nil]
    omega
theorem stepsB_take (b : List UInt8) (k : Nat) (h : k < b.length) : stepsB (b.take (k + 1)) = stepsB (b.take k) ++ [twoB b[k] 0, twoB b[k] 1, twoB b[k] 2, twoB b[k] 3] := by
  rw [List.take_succ_eq_append_getElem h]
  unfold stepsB
  rw [List.flatMap_append]
  rfl
def pointsB (b : List UInt8) : List Pt := if 4096 < b.length then [] else (1, 1) :: walkP (1, 1) (stepsB b)

/-- the turn from one point to the next; -1: one is of no kind -/
def stepI (a b : Pt) : Int := if kindI a < 0 ∨ kindI b < 0 then -1 else (kindI b - kindI a) % 4
theorem stepI_range (a b : Pt) : -1 ≤ stepI a b ∧ stepI a b ≤ 3 := by unfold stepI; split <;> omega
/-- four steps are a byte -/
structure Pk where
  out : List UInt8
  n : Nat
  c : Nat
def pkStep (s : Pk) (k : Int) : Pk := if s.c = 3 then ⟨s.out ++ [UInt8.ofNat (4 * s.n + k.toNat)], 0, 0⟩ else ⟨s.out, 4 * s.n + k.toNat, s.c + 1⟩
def pkRun (l : List Int) : Pk := l.foldl pkStep ⟨[], 0, 0⟩
theorem pkRun_snoc (l : List Int) (k : Int) : pkRun (l ++ [k]) = pkStep (pkRun l) k := by simp [pkRun, List.foldl_append]
theorem pkFold (l : List Int) : ∀ s : Pk, s.c < 4 → s.n < 4 ^ s.c → (∀ k ∈ l, k ≤ 3) → (l.foldl pkStep s).c = (s.c + l.length) % 4 ∧ (l.foldl pkStep s).n < 4 ^ (l.foldl pkStep s).c := by
  induction l with
  | nil => intro s hc hn _; exact ⟨(Nat.mod_eq_of_lt hc).symm, hn⟩
  | cons k r ih =>
    intro s hc hn hk
    have h2 := hk k (by simp)
    rw [List.foldl_cons]
    by_cases h : s.c = 3
    · have e : pkStep s k = ⟨s.out ++ [UInt8.ofNat (4 * s.n + k.toNat)], 0, 0⟩ := by unfold pkStep; rw [if_pos h]
      rw [e]
      obtain ⟨i1, i2⟩ := ih ⟨s.out ++ [UInt8.ofNat (4 * s.n + k.toNat)], 0, 0⟩ (by simp) (by simp) (fun x hx => hk x (by simp [hx]))
      refine ⟨?_, i2⟩
      rw [i1]
      simp only [List.length_cons]
      omega
    · have e : pkStep s k = ⟨s.out, 4 * s.n + k.toNat, s.c + 1⟩ := by unfold pkStep; rw [if_neg h]
      rw [e]
      obtain ⟨i1, i2⟩ := ih ⟨s.out, 4 * s.n + k.toNat, s.c + 1⟩ (by simp only; omega) (by simp only [Nat.pow_succ]; omega) (fun x hx => hk x (by simp [hx]))
      refine ⟨?_, i2⟩
      rw [i1]
      simp only [List.length_cons]
      omega
theorem pkRun_c (l : List Int) (h : ∀ k ∈ l, k ≤ 3) : (pkRun l).c = l.length % 4 := by
  have := (pkFold l ⟨[], 0, 0⟩ (by decide) (by decide) h).1
  simpa [pkRun] using this
theorem pkRun_n (l : List Int) (h : ∀ k ∈ l, k ≤ 3) : (pkRun l).n < 4 ^ (pkRun l).c := (pkFold l ⟨[], 0, 0⟩ (by decide) (by decide) h).2
/-- the steps between the points of a list -/
def stepsP : List Pt → List Int
  | a :: b :: r => stepI a b :: stepsP (b :: r)
  | _ => []
theorem stepsP_len (l : List Pt) : (stepsP l).length = l.length - 1 := by
  match l with
  | [] => rfl
  | [a] => rfl
  | a :: b :: r => simp only [stepsP, List.length_cons, stepsP_len (b :: r)]; omega
theorem stepsP_snoc (l : List Pt) (a b : Pt) : stepsP (l ++ [a] ++ [b]) = stepsP (l ++ [a]) ++ [stepI a b] := by
  match l with
  | [] => rfl
  | [x] => rfl
  | x :: y :: r =>
    have := stepsP_snoc (y :: r) a b
    simp only [List.cons_append, stepsP] at this ⊢
    rw [this]
theorem stepsP_take (l : List Pt) (i : Nat) (h0 : 0 < i) (h : i < l.length) : stepsP (l.take (i + 1)) = stepsP (l.take i) ++ [stepI (l[i - 1]'(by omega)) l[i]] := by
  have e1 : l.take i = l.take (i - 1) ++ [l[i - 1]'(by omega)] := by
    have := List.take_succ_eq_append_getElem (l := l) (i := i - 1) (by omega)
    rw [show i - 1 + 1 = i by omega] at this
    exact this
  rw [List.take_succ_eq_append_getElem h]
  conv => lhs; rw [e1]
  conv => rhs; rw [e1]
  exact stepsP_snoc _ _ _
def bytesB (l : List Pt) : List UInt8 × Int :=
  if 16385 < l.length then ([], 2) else
  if l.length % 4 ≠ 1 ∨ kindI (l.getD 0 (0, 0)) < 0 then ([], 70) else
  if ∃ k ∈ stepsP l, k < 0 then ([], 70) else ((pkRun (stepsP l)).out, 0)

def ints (s : List Nat) : List Int := s.map Int.ofNat
/-- P7.5: what was made of bytes is these again, from whichever side it is looked at -/
theorem stepI_turn (k : Int) (q j : Nat) (hj : j < 4) : stepI (rotK k (unit q)) (rotK k (rotN j (unit q))) = j := by
  unfold rotK
  rw [unit_rot, unit_rot, unit_rot]
  unfold stepI
  have h1 := kindI_unit ((q + rest4 k) % 4) (by omega)
  have h2 := kindI_unit (((q + j) % 4 + rest4 k) % 4) (by omega)
  rw [h1, h2, if_neg (by omega)]
  omega
theorem stepsP_walk (k : Int) (s : List Nat) (hs : ∀ j ∈ s, j < 4) : ∀ q, stepsP ((unit q :: walkP (unit q) s).map (rotK k)) = ints s := by
  induction s with
  | nil => intro q; rfl
  | cons j r ih =>
    intro q
    have h1 := stepI_turn k q j (hs j (by simp))
    have h2 := ih (fun x hx => hs x (by simp [hx])) ((q + j) % 4)
    simp only [walkP, List.map_cons, stepsP] at h2 ⊢
    rw [h1, unit_rot, h2]
    rfl
theorem stepsB_lt (b : List UInt8) : ∀ j ∈ stepsB b, j < 4 := by
  intro j hj
  obtain ⟨c, _, hc⟩ := List.mem_flatMap.1 hj
  simp only [List.mem_cons, List.not_mem_nil, or_false] at hc
  unfold twoB at hc
  omega
theorem pk_byte (o : List UInt8) (c : UInt8) : (ints [twoB c 0, twoB c 1, twoB c 2, twoB c 3]).foldl pkStep ⟨o, 0, 0⟩ = ⟨o ++ [c], 0, 0⟩ := by
  have t0 : twoB c 0 = c.toNat / 64 % 4 := rfl
  have t1 : twoB c 1 = c.toNat / 16 % 4 := rfl
  have t2 : twoB c 2 = c.toNat / 4 % 4 := rfl
  have t3 : twoB c 3 = c.toNat % 4 := by show c.toNat / 1 % 4 = _; rw [Nat.div_one]
  have hc := c.toNat_lt
  have e : UInt8.ofNat (4 * (4 * (4 * (4 * 0 + twoB c 0) + twoB c 1) + twoB c 2) + twoB c 3) = c := by
    rw [t0, t1, t2, t3]
    rw [show 4 * (4 * (4 * (4 * 0 + c.toNat / 64 % 4) + c.toNat / 16 % 4) + c.toNat / 4 % 4) + c.toNat % 4 = c.toNat by omega]
    simp
  show (⟨o ++ [UInt8.ofNat (4 * (4 * (4 * (4 * 0 + twoB c 0) + twoB c 1) + twoB c 2) + twoB c 3)], 0, 0⟩ : Pk) = _
  rw [e]
theorem pkRun_steps (b : List UInt8) : pkRun (ints (stepsB b)) = ⟨b, 0, 0⟩ := by
  have key : ∀ (b o : List UInt8), (ints (stepsB b)).foldl pkStep ⟨o, 0, 0⟩ = ⟨o ++ b, 0, 0⟩ := by
    intro b
    induction b with
    | nil => intro o; simp [stepsB, ints]
    | cons c r ih =>
      intro o
      have e : stepsB (c :: r) = [twoB c 0, twoB c 1, twoB c 2, twoB c 3] ++ stepsB r := rfl
      have e2 : ints ([twoB c 0, twoB c 1, twoB c 2, twoB c 3] ++ stepsB r) = ints [twoB c 0, twoB c 1, twoB c 2, twoB c 3] ++ ints (stepsB r) := List.map_append
      rw [e, e2, List.foldl_append, pk_byte, ih]
      simp
  have := key b []
  simpa [pkRun] using this
theorem phase_back (b : List UInt8) (k : Int) (hb : b.length ≤ 4096) : bytesB (turnB (pointsB b) k) = (b, 0) := by
  have hl : (turnB (pointsB b) k).length = 4 * b.length + 1 := by
    unfold turnB pointsB
    rw [if_neg (by omega), List.length_map, List.length_cons, walkP_len, stepsB_len]
  have hs : stepsP (turnB (pointsB b) k) = ints (stepsB b) := by
    unfold turnB pointsB
    rw [if_neg (by omega)]
    exact stepsP_walk k (stepsB b) (stepsB_lt b) 0
  have hk : 0 ≤ kindI ((turnB (pointsB b) k).getD 0 (0, 0)) := by
    unfold turnB pointsB
    rw [if_neg (by omega)]
    simp only [List.map_cons, List.getD_cons_zero]
    have : rotK k (1, 1) = unit (rest4 k) := rfl
    rw [this, kindI_unit _ (rest4_lt k)]
    omega
  unfold bytesB
  rw [if_neg (by omega), if_neg (by omega), hs, if_neg (by rintro ⟨x, hx, h0⟩; obtain ⟨j, _, rfl⟩ := List.mem_map.1 hx; have : (0 : Int) ≤ Int.ofNat j := Int.natCast_nonneg j; omega), pkRun_steps]
end Go.Proofs.YtkcpkfimmolkkaaDoor

/- Plain facts on points held against points: the sum of products, where a mark stands, where it fits best. Nothing of the program is in here. -/
namespace Go.Proofs.YtkcpkfimmolkkaaDoor

def termP (p q : Pt) : Pt := (p.1 * q.1 + p.2 * q.2, p.2 * q.1 - p.1 * q.2)
def addP (p q : Pt) : Pt := (p.1 + q.1, p.2 + q.2)
def sumP (l : List Pt) : Pt := l.foldl addP (0, 0)
theorem sumP_snoc (l : List Pt) (p : Pt) : sumP (l ++ [p]) = addP (sumP l) p := by simp [sumP, List.foldl_append]
def dotP (a b : List Pt) : Pt := sumP (List.zipWith termP a b)
def sizeI (p : Pt) : Int := p.1 * p.1 + p.2 * p.2
theorem zip_take (a b : List Pt) (i : Nat) : List.zipWith termP (a.take i) (b.take i) = (List.zipWith termP a b).take i := by rw [List.take_zipWith]
theorem dotP_take (a b : List Pt) (i : Nat) (ha : i < a.length) (hb : i < b.length) : dotP (a.take (i + 1)) (b.take (i + 1)) = addP (dotP (a.take i) (b.take i)) (termP a[i] b[i]) := by
  unfold dotP
  rw [zip_take, zip_take, List.take_succ_eq_append_getElem (by rw [List.length_zipWith]; omega), sumP_snoc, List.getElem_zipWith]
theorem dotP_all (a b : List Pt) (i : Nat) (h : a.length ≤ i ∨ b.length ≤ i) : dotP (a.take i) (b.take i) = dotP a b := by
  unfold dotP
  rw [zip_take, List.take_of_length_le (by rw [List.length_zipWith]; omega)]
/-- parts within 100 -/
def Near (p : Pt) : Prop := -100 ≤ p.1 ∧ p.1 ≤ 100 ∧ -100 ≤ p.2 ∧ p.2 ≤ 100
theorem mul_near {a b : Int} (h1 : -100 ≤ a) (h2 : a ≤ 100) (h3 : -100 ≤ b) (h4 : b ≤ 100) : -10000 ≤ a * b ∧ a * b ≤ 10000 := by
  have h : (a * b).natAbs ≤ 10000 := by
    rw [Int.natAbs_mul]
    exact Nat.le_trans (Nat.mul_le_mul (show a.natAbs ≤ 100 by omega) (show b.natAbs ≤ 100 by omega)) (by decide)
  omega
theorem term_near {p q : Pt} (hp : Near p) (hq : Near q) : -20000 ≤ (termP p q).1 ∧ (termP p q).1 ≤ 20000 ∧ -20000 ≤ (termP p q).2 ∧ (termP p q).2 ≤ 20000 := by
  obtain ⟨p1, p2, p3, p4⟩ := hp
  obtain ⟨q1, q2, q3, q4⟩ := hq
  have m1 := mul_near p1 p2 q1 q2
  have m2 := mul_near p3 p4 q3 q4
  have m3 := mul_near p3 p4 q1 q2
  have m4 := mul_near p1 p2 q3 q4
  unfold termP
  simp only
  omega
theorem sum_bound (B : Int) (l : List Pt) (h : ∀ p ∈ l, -B ≤ p.1 ∧ p.1 ≤ B ∧ -B ≤ p.2 ∧ p.2 ≤ B) : -(B * l.length) ≤ (sumP l).1 ∧ (sumP l).1 ≤ B * l.length ∧ -(B * l.length) ≤ (sumP l).2 ∧ (sumP l).2 ≤ B * l.length := by
  have key : ∀ (l : List Pt) (s : Pt) (c : Int), (∀ p ∈ l, -B ≤ p.1 ∧ p.1 ≤ B ∧ -B ≤ p.2 ∧ p.2 ≤ B) → (-c ≤ s.1 ∧ s.1 ≤ c ∧ -c ≤ s.2 ∧ s.2 ≤ c) → -(c + B * l.length) ≤ (l.foldl addP s).1 ∧ (l.foldl addP s).1 ≤ c + B * l.length ∧ -(c + B * l.length) ≤ (l.foldl addP s).2 ∧ (l.foldl addP s).2 ≤ c + B * l.length := by
    intro l
    induction l with
    | nil => intro s c _ h2; simpa using h2
    | cons p r ih =>
      intro s c h1 h2
      have hp := h1 p (by simp)
      have := ih (addP s p) (c + B) (fun x hx => h1 x (by simp [hx])) (by unfold addP; simp only; omega)
      rw [List.foldl_cons]
      have e : c + B * ((p :: r).length : Int) = c + B + B * (r.length : Int) := by
        rw [List.length_cons, Int.natCast_add, Int.mul_add]; simp; omega
      rw [e]
      exact this
  have := key l (0, 0) 0 h (by decide)
  simpa [sumP] using this
theorem dot_near (a b : List Pt) (ha : ∀ p ∈ a, Near p) (hb : ∀ p ∈ b, Near p) (hl : b.length ≤ 400) : -8000000 ≤ (dotP a b).1 ∧ (dotP a b).1 ≤ 8000000 ∧ -8000000 ≤ (dotP a b).2 ∧ (dotP a b).2 ≤ 8000000 := by
  have h := sum_bound 20000 (List.zipWith termP a b) (fun p hp => by
    obtain ⟨i, hi, rfl⟩ := List.mem_iff_getElem.1 hp
    rw [List.length_zipWith] at hi
    rw [List.getElem_zipWith]
    exact term_near (ha _ (List.getElem_mem (by omega))) (hb _ (List.getElem_mem (by omega))))
  have hlen : ((List.zipWith termP a b).length : Int) ≤ 400 := by rw [List.length_zipWith]; omega
  unfold dotP
  omega

/-- the mark, turned, stands in l at that place -/
def St (l mark : List Pt) (a t : Nat) : Prop := (l.drop a).take mark.length = turnB mark t
/-- what Find answers -/
def FindR (l mark : List Pt) (a t : Nat) (ok : Bool) : Prop :=
  (ok = true ∧ 0 < mark.length ∧ a + mark.length ≤ l.length ∧ t < 4 ∧ St l mark a t ∧ (∀ u, u < t → ¬ St l mark a u) ∧ ∀ b, b < a → ∀ u, u < 4 → ¬ St l mark b u) ∨
  (ok = false ∧ a = 0 ∧ t = 0 ∧ (mark.length = 0 ∨ ∀ b, b + mark.length ≤ l.length → ∀ u, u < 4 → ¬ St l mark b u))
theorem FindR.unique {l mark : List Pt} {a t a' t' : Nat} {ok ok' : Bool} (h : FindR l mark a t ok) (h' : FindR l mark a' t' ok') : a = a' ∧ t = t' ∧ ok = ok' := by
  rcases h with ⟨e1, p1, q1, r1, s1, m1, n1⟩ | ⟨e1, x1, y1, z1⟩
  · rcases h' with ⟨e2, p2, q2, r2, s2, m2, n2⟩ | ⟨e2, x2, y2, z2⟩
    · have ha : a = a' := by
        rcases Nat.lt_trichotomy a a' with h | h | h
        · exact absurd s1 (n2 a h t r1)
        · exact h
        · exact absurd s2 (n1 a' h t' r2)
      subst ha
      refine ⟨rfl, ?_, by rw [e1, e2]⟩
      rcases Nat.lt_trichotomy t t' with h | h | h
      · exact absurd s1 (m2 t h)
      · exact h
      · exact absurd s2 (m1 t' h)
    · rcases z2 with z2 | z2
      · omega
      · exact absurd s1 (z2 a q1 t r1)
  · rcases h' with ⟨e2, p2, q2, r2, s2, m2, n2⟩ | ⟨e2, x2, y2, z2⟩
    · rcases z1 with z1 | z1
      · omega
      · exact absurd s2 (z1 a' q2 t' r2)
    · exact ⟨by omega, by omega, by rw [e1, e2]⟩
theorem rotK_nat (t : Nat) (h : t < 4) : rotK (t : Int) = rotN t := by
  funext p
  unfold rotK
  rw [rest4_nat, Nat.mod_eq_of_lt h]
theorem turnB_add (l : List Pt) (k n : Int) : turnB (turnB l k) n = turnB l (k + n) := by
  unfold turnB
  rw [List.map_map]
  congr 1
  funext p
  exact rotK_add k n p
theorem turnB_mod (l : List Pt) (k n : Int) (h : k % 4 = n % 4) : turnB l k = turnB l n := by
  unfold turnB
  congr 1
  funext p
  unfold rotK rest4
  rw [h]
theorem turnB_zero (l : List Pt) : turnB l 0 = l := by
  unfold turnB
  have : rotK 0 = id := by funext p; rfl
  rw [this, List.map_id]
theorem St_turn (l mark : List Pt) (k : Int) (a t : Nat) : St (turnB l k) mark a t ↔ St l mark a (rest4 ((t : Int) - k)) := by
  have e : ((turnB l k).drop a).take mark.length = turnB ((l.drop a).take mark.length) k := by unfold turnB; rw [← List.map_drop, ← List.map_take]
  unfold St
  rw [e, rest4_cast, turnB_mod mark (((t : Int) - k) % 4) ((t : Int) - k) (by omega)]
  constructor
  · intro h
    have h2 : turnB (turnB ((l.drop a).take mark.length) k) (-k) = turnB (turnB mark t) (-k) := by rw [h]
    rw [turnB_add, turnB_add, turnB_mod _ (k + -k) 0 (by omega), turnB_zero] at h2
    rw [h2]
    rfl
  · intro h
    rw [h, turnB_add, turnB_mod mark ((t : Int) - k + k) (t : Int) (by omega)]
/-- who looks from another side finds the mark at the same place -/
theorem find_turned {l mark : List Pt} {k : Int} {a t a' t' : Nat} {ok ok' : Bool} (h : FindR l mark a t ok) (h' : FindR (turnB l k) mark a' t' ok') : a = a' ∧ ok = ok' := by
  have hlen : (turnB l k).length = l.length := by unfold turnB; simp
  have key : ∀ b, (∀ u, u < 4 → ¬ St (turnB l k) mark b u) → ∀ u, u < 4 → ¬ St l mark b u := by
    intro b hb u hu hs
    refine hb (rest4 ((u : Int) + k)) (rest4_lt _) ((St_turn l mark k b _).2 ?_)
    have : rest4 ((rest4 ((u : Int) + k) : Int) - k) = u := by rw [rest4_cast]; unfold rest4; omega
    rw [this]
    exact hs
  have key2 : ∀ b, (∀ u, u < 4 → ¬ St l mark b u) → ∀ u, u < 4 → ¬ St (turnB l k) mark b u := by
    intro b hb u hu hs
    exact hb _ (rest4_lt _) ((St_turn l mark k b u).1 hs)
  rcases h with ⟨e1, p1, q1, r1, s1, m1, n1⟩ | ⟨e1, x1, y1, z1⟩
  · rcases h' with ⟨e2, p2, q2, r2, s2, m2, n2⟩ | ⟨e2, x2, y2, z2⟩
    · refine ⟨?_, by rw [e1, e2]⟩
      rcases Nat.lt_trichotomy a a' with h | h | h
      · exact absurd s1 (key a (n2 a h) t r1)
      · exact h
      · exact absurd s2 (key2 a' (n1 a' h) t' r2)
    · rcases z2 with z2 | z2
      · omega
      · rw [hlen] at z2
        exact absurd s1 (key a (z2 a q1) t r1)
  · rcases h' with ⟨e2, p2, q2, r2, s2, m2, n2⟩ | ⟨e2, x2, y2, z2⟩
    · rcases z1 with z1 | z1
      · omega
      · rw [hlen] at q2
        exact absurd s2 (key2 a' (z1 a' q2) t' r2)
    · exact ⟨by omega, by rw [e1, e2]⟩

/-- how well the mark fits at that place -/
def fitI (l mark : List Pt) (a : Nat) : Int := sizeI (dotP (l.drop a) mark)
/-- what Peak answers -/
def PeakR (l mark : List Pt) (a : Nat) (ok : Bool) : Prop :=
  (ok = true ∧ 0 < mark.length ∧ a + mark.length ≤ l.length ∧ (∀ b, b + mark.length ≤ l.length → fitI l mark b ≤ fitI l mark a) ∧ ∀ b, b < a → fitI l mark b < fitI l mark a) ∨
  (ok = false ∧ a = 0 ∧ (mark.length = 0 ∨ l.length < mark.length))
theorem PeakR.unique {l mark : List Pt} {a a' : Nat} {ok ok' : Bool} (h : PeakR l mark a ok) (h' : PeakR l mark a' ok') : a = a' ∧ ok = ok' := by
  rcases h with ⟨e1, p1, q1, r1, s1⟩ | ⟨e1, x1, y1⟩
  · rcases h' with ⟨e2, p2, q2, r2, s2⟩ | ⟨e2, x2, y2⟩
    · refine ⟨?_, by rw [e1, e2]⟩
      rcases Nat.lt_trichotomy a a' with h | h | h
      · have h1 := s2 a h
        have h2 := r1 a' q2
        omega
      · exact h
      · have h1 := s1 a' h
        have h2 := r2 a q1
        omega
    · omega
  · rcases h' with ⟨e2, p2, q2, r2, s2⟩ | ⟨e2, x2, y2⟩
    · omega
    · exact ⟨by omega, by rw [e1, e2]⟩

def slicedB (l : List Pt) : List Pt := l.map sliceP
/-- one of the four points -/
def Uni (p : Pt) : Prop := (p.1 = 1 ∨ p.1 = -1) ∧ (p.2 = 1 ∨ p.2 = -1)
theorem sliceP_uni (p : Pt) : Uni (sliceP p) := by
  unfold sliceP Uni
  constructor
  · show (if 0 ≤ p.1 then (1 : Int) else -1) = 1 ∨ _ = _
    split <;> simp
  · show (if 0 ≤ p.2 then (1 : Int) else -1) = 1 ∨ _ = _
    split <;> simp
theorem Uni.near {p : Pt} (h : Uni p) : Near p := by unfold Uni at h; unfold Near; omega
/-- a product of two of the four: which turn -/
theorem term_uni {p q : Pt} (hp : Uni p) (hq : Uni q) : ∃ t, t < 4 ∧ p = rotN t q ∧ termP p q = rotN t (2, 0) := by
  obtain ⟨p1, p2⟩ := p
  obtain ⟨q1, q2⟩ := q
  unfold Uni at hp hq
  simp only at hp hq
  obtain ⟨rfl | rfl, rfl | rfl⟩ := hp <;> obtain ⟨rfl | rfl, rfl | rfl⟩ := hq <;>
    first
    | exact ⟨0, by decide, by decide +kernel, by decide +kernel⟩
    | exact ⟨1, by decide, by decide +kernel, by decide +kernel⟩
    | exact ⟨2, by decide, by decide +kernel, by decide +kernel⟩
    | exact ⟨3, by decide, by decide +kernel, by decide +kernel⟩
theorem term_turn {q : Pt} (hq : Uni q) (t : Nat) (ht : t < 4) : termP (rotN t q) q = rotN t (2, 0) := by
  obtain ⟨q1, q2⟩ := q
  unfold Uni at hq
  simp only at hq
  have h4 : t = 0 ∨ t = 1 ∨ t = 2 ∨ t = 3 := by omega
  obtain ⟨rfl | rfl, rfl | rfl⟩ := hq <;> rcases h4 with rfl | rfl | rfl | rfl <;> decide +kernel
/-- a sum, by a part of it that is at most 2 each -/
theorem sum_part (f : Pt → Int) (hf : ∀ p q, f (addP p q) = f p + f q) (h0 : f (0, 0) = 0) (l : List Pt) (hl : ∀ p ∈ l, f p ≤ 2) : f (sumP l) ≤ 2 * l.length ∧ (f (sumP l) = 2 * l.length → ∀ p ∈ l, f p = 2) := by
  have key : ∀ (l : List Pt) (s : Pt), (∀ p ∈ l, f p ≤ 2) → f (l.foldl addP s) ≤ f s + 2 * l.length ∧ (f (l.foldl addP s) = f s + 2 * l.length → ∀ p ∈ l, f p = 2) := by
    intro l
    induction l with
    | nil => intro s _; exact ⟨by simp, fun _ p hp => by cases hp⟩
    | cons p r ih =>
      intro s h
      have hp := h p (by simp)
      obtain ⟨h1, h2⟩ := ih (addP s p) (fun x hx => h x (by simp [hx]))
      rw [hf] at h1 h2
      rw [List.foldl_cons, List.length_cons]
      refine ⟨by omega, fun he x hx => ?_⟩
      have h3 : f p = 2 := by omega
      rcases List.mem_cons.1 hx with rfl | hx
      · exact h3
      · exact h2 (by omega) x hx
  have := key l (0, 0) hl
  rw [h0] at this
  simpa [sumP] using this
theorem four_sq (x : Int) : 2 * x * (2 * x) = 4 * (x * x) := by
  rw [Int.mul_assoc, Int.mul_left_comm x 2 x, ← Int.mul_assoc]
  rfl
theorem square_le {X Y : Int} {N : Nat} (h1 : X + Y ≤ N) (h2 : X - Y ≤ N) (h3 : -X + Y ≤ N) (h4 : -X - Y ≤ N) : X * X + Y * Y ≤ (N : Int) * N ∧ (X * X + Y * Y = (N : Int) * N → X = N ∨ Y = N ∨ -X = N ∨ -Y = N) := by
  obtain ⟨a, ha⟩ : ∃ a, a = X.natAbs := ⟨_, rfl⟩
  obtain ⟨b, hb⟩ : ∃ b, b = Y.natAbs := ⟨_, rfl⟩
  have hab : a + b ≤ N := by omega
  have e1 : X * X = (a * a : Nat) := by rw [ha]; exact (Int.natAbs_mul_self (a := X)).symm
  have e2 : Y * Y = (b * b : Nat) := by rw [hb]; exact (Int.natAbs_mul_self (a := Y)).symm
  have h5 : (a + b) * (a + b) ≤ N * N := Nat.mul_le_mul hab hab
  have h6 : (a + b) * (a + b) = a * a + b * b + 2 * (a * b) := by rw [Nat.mul_add, Nat.add_mul, Nat.add_mul, Nat.mul_comm b a]; omega
  have e3 : (N : Int) * N = (N * N : Nat) := by simp
  rw [e1, e2, e3]
  refine ⟨by omega, fun he => ?_⟩
  have h7 : a * b = 0 := by omega
  have h8 : (a + b) * (a + b) = N * N := by omega
  have h9 : a + b = N := Nat.mul_self_inj.1 h8
  rcases Nat.mul_eq_zero.1 h7 with h | h <;> omega
theorem rot_two (t : Nat) (ht : t < 4) : rotN t ((2, 0) : Pt) = (2, 0) ∨ rotN t ((2, 0) : Pt) = (0, 2) ∨ rotN t ((2, 0) : Pt) = (-2, 0) ∨ rotN t ((2, 0) : Pt) = (0, -2) := by
  have h4 : t = 0 ∨ t = 1 ∨ t = 2 ∨ t = 3 := by omega
  rcases h4 with rfl | rfl | rfl | rfl <;> decide +kernel
/-- among points of the four kinds nothing fits better than wholly; what fits wholly is turned -/
theorem fit_uni (u v : List Pt) (hu : ∀ p ∈ u, Uni p) (hv : ∀ p ∈ v, Uni p) (hl : v.length ≤ u.length) :
    sizeI (dotP u v) ≤ 4 * ((v.length : Int) * v.length) ∧ (sizeI (dotP u v) = 4 * ((v.length : Int) * v.length) ↔ ∃ t : Nat, t < 4 ∧ u.take v.length = turnB v (t : Int)) := by
  have hzl : (List.zipWith termP u v).length = v.length := by rw [List.length_zipWith]; omega
  have hz : ∀ p ∈ List.zipWith termP u v, ∃ t, t < 4 ∧ p = rotN t (2, 0) := by
    intro p hp
    obtain ⟨i, hi, rfl⟩ := List.mem_iff_getElem.1 hp
    rw [List.length_zipWith] at hi
    rw [List.getElem_zipWith]
    obtain ⟨t, h1, _, h3⟩ := term_uni (hu _ (List.getElem_mem (show i < u.length by omega))) (hv _ (List.getElem_mem (show i < v.length by omega)))
    exact ⟨t, h1, h3⟩
  have hpart : ∀ f : Pt → Int, (∀ p q, f (addP p q) = f p + f q) → f (0, 0) = 0 → f (2, 0) ≤ 2 → f (0, 2) ≤ 2 → f (-2, 0) ≤ 2 → f (0, -2) ≤ 2 → f (dotP u v) ≤ 2 * v.length ∧ (f (dotP u v) = 2 * v.length → ∀ p ∈ List.zipWith termP u v, f p = 2) := by
    intro f h1 h2 a1 a2 a3 a4
    have := sum_part f h1 h2 (List.zipWith termP u v) (fun p hp => by
      obtain ⟨t, ht, rfl⟩ := hz p hp
      rcases rot_two t ht with h | h | h | h <;> rw [h] <;> assumption)
    rw [hzl] at this
    exact this
  have b1 := (hpart (fun p => p.1 + p.2) (fun p q => by simp only [addP]; omega) rfl (by decide) (by decide) (by decide) (by decide)).1
  have b2 := (hpart (fun p => p.1 - p.2) (fun p q => by simp only [addP]; omega) rfl (by decide) (by decide) (by decide) (by decide)).1
  have b3 := (hpart (fun p => -p.1 + p.2) (fun p q => by simp only [addP]; omega) rfl (by decide) (by decide) (by decide) (by decide)).1
  have b4 := (hpart (fun p => -p.1 - p.2) (fun p q => by simp only [addP]; omega) rfl (by decide) (by decide) (by decide) (by decide)).1
  have c1 := (hpart (fun p => p.1) (fun p q => rfl) rfl (by decide) (by decide) (by decide) (by decide)).2
  have c2 := (hpart (fun p => p.2) (fun p q => rfl) rfl (by decide) (by decide) (by decide) (by decide)).2
  have c3 := (hpart (fun p => -p.1) (fun p q => by simp only [addP]; omega) rfl (by decide) (by decide) (by decide) (by decide)).2
  have c4 := (hpart (fun p => -p.2) (fun p q => by simp only [addP]; omega) rfl (by decide) (by decide) (by decide) (by decide)).2
  have hsq := square_le (X := (dotP u v).1) (Y := (dotP u v).2) (N := 2 * v.length) (by omega) (by omega) (by omega) (by omega)
  have e4 : ((2 * v.length : Nat) : Int) * ((2 * v.length : Nat) : Int) = 4 * ((v.length : Int) * v.length) := by
    rw [Int.natCast_mul]
    exact four_sq _
  rw [e4] at hsq
  refine ⟨hsq.1, ⟨fun he => ?_, ?_⟩⟩
  · have hone : ∃ t, t < 4 ∧ ∀ p ∈ List.zipWith termP u v, p = rotN t (2, 0) := by
      have pick : ∀ (t : Nat) (f : Pt → Int), t < 4 → (∀ s, s < 4 → f (rotN s (2, 0)) = 2 → rotN s ((2, 0) : Pt) = rotN t (2, 0)) → (∀ p ∈ List.zipWith termP u v, f p = 2) → ∃ t, t < 4 ∧ ∀ p ∈ List.zipWith termP u v, p = rotN t (2, 0) := by
        intro t f ht hs hf
        refine ⟨t, ht, fun p hp => ?_⟩
        obtain ⟨s, hs4, rfl⟩ := hz p hp
        exact hs s hs4 (hf _ hp)
      have four : ∀ (P : Nat → Prop), P 0 → P 1 → P 2 → P 3 → ∀ s, s < 4 → P s := by
        intro P p0 p1 p2 p3 s hs
        have h4 : s = 0 ∨ s = 1 ∨ s = 2 ∨ s = 3 := by omega
        rcases h4 with rfl | rfl | rfl | rfl <;> assumption
      rcases hsq.2 he with h | h | h | h
      · exact pick 0 _ (by decide) (four _ (by decide +kernel) (by decide +kernel) (by decide +kernel) (by decide +kernel)) (c1 (by omega))
      · exact pick 1 _ (by decide) (four _ (by decide +kernel) (by decide +kernel) (by decide +kernel) (by decide +kernel)) (c2 (by omega))
      · exact pick 2 _ (by decide) (four _ (by decide +kernel) (by decide +kernel) (by decide +kernel) (by decide +kernel)) (c3 (by omega))
      · exact pick 3 _ (by decide) (four _ (by decide +kernel) (by decide +kernel) (by decide +kernel) (by decide +kernel)) (c4 (by omega))
    obtain ⟨t, ht, hall⟩ := hone
    refine ⟨t, ht, ?_⟩
    refine List.ext_getElem (by unfold turnB; simp; omega) (fun i h1 h2 => ?_)
    have hi : i < v.length := by simpa [turnB] using h2
    have hp := hall ((List.zipWith termP u v)[i]'(by omega)) (List.getElem_mem _)
    rw [List.getElem_zipWith] at hp
    obtain ⟨s, hs, hps, hts⟩ := term_uni (hu _ (List.getElem_mem (show i < u.length by omega))) (hv _ (List.getElem_mem hi))
    rw [hts] at hp
    have hst : s = t := by
      have h4 : s = 0 ∨ s = 1 ∨ s = 2 ∨ s = 3 := by omega
      have h5 : t = 0 ∨ t = 1 ∨ t = 2 ∨ t = 3 := by omega
      rcases h4 with rfl | rfl | rfl | rfl <;> rcases h5 with rfl | rfl | rfl | rfl <;> first | rfl | exact absurd hp (by decide +kernel)
    subst hst
    have e2 : (turnB v (s : Int))[i]'h2 = rotK (s : Int) v[i] := List.getElem_map ..
    rw [List.getElem_take, e2, rotK_nat s hs]
    exact hps
  · rintro ⟨t, ht, h⟩
    have hd : dotP u v = sumP (List.replicate v.length (rotN t (2, 0))) := by
      unfold dotP
      congr 1
      refine List.ext_getElem (by simp; omega) (fun i h1 h2 => ?_)
      have hi : i < v.length := by simpa using h2
      rw [List.getElem_zipWith, List.getElem_replicate]
      have hui : u[i]'(by omega) = rotN t v[i] := by
        have h3 : (u.take v.length)[i]'(by simp; omega) = (turnB v t)[i]'(by unfold turnB; simpa using hi) := by congr 1
        unfold turnB at h3
        rw [List.getElem_take, List.getElem_map, rotK_nat t ht] at h3
        exact h3
      rw [hui]
      exact term_turn (hv _ (List.getElem_mem hi)) t ht
    have hsum : ∀ n : Nat, sumP (List.replicate n (rotN t ((2, 0) : Pt))) = (n * (rotN t ((2, 0) : Pt)).1, n * (rotN t ((2, 0) : Pt)).2) := by
      intro n
      induction n with
      | zero => simp [sumP]
      | succ n ih =>
        rw [List.replicate_succ', sumP_snoc, ih]
        unfold addP
        simp only [Int.natCast_add, Int.add_mul]
        simp
    rw [hd, hsum]
    unfold sizeI
    rcases rot_two t ht with h | h | h | h <;> rw [h] <;> simp only [Int.mul_zero, Int.add_zero, Int.zero_add]
    · rw [Int.mul_comm _ (2 : Int)]; exact four_sq _
    · rw [Int.mul_comm _ (2 : Int)]; exact four_sq _
    · rw [Int.mul_neg, Int.neg_mul_neg, Int.mul_comm _ (2 : Int)]; exact four_sq _
    · rw [Int.mul_neg, Int.neg_mul_neg, Int.mul_comm _ (2 : Int)]; exact four_sq _
end Go.Proofs.YtkcpkfimmolkkaaDoor

/- Plain facts on the register of fifteen bits: its steps, the bits and bytes that it makes, bytes xored with them. Nothing of the program is in here. -/
namespace Go.Proofs.YtkcpkfimmolkkaaDoor

def bitN (s : Nat) : Nat := (s / 16384 + s / 8192) % 2
def nextN (s : Nat) : Nat := (2 * s + bitN s) % 32768
theorem bitN_lt (s : Nat) : bitN s < 2 := Nat.mod_lt _ (by decide)
theorem nextN_lt (s : Nat) : nextN s < 32768 := Nat.mod_lt _ (by decide)
/-- the state that a number stands for -/
def ownN (i : Int) : Nat := (i % 32768).toNat
theorem ownN_lt (i : Int) : ownN i < 32768 := by unfold ownN; omega
theorem ownN_cast (i : Int) : (ownN i : Int) = i % 32768 := by unfold ownN; omega
theorem ownN_nat (s : Nat) (h : s < 32768) : ownN (s : Int) = s := by unfold ownN; omega
theorem nextN_zero (s : Nat) (h : s < 32768) : nextN s = 0 ↔ s = 0 := by unfold nextN bitN; omega
/-- so many steps -/
def stN : Nat → Nat → Nat
  | 0, s => s
  | k + 1, s => stN k (nextN s)
theorem stN_add (j k : Nat) : ∀ s, stN (j + k) s = stN k (stN j s) := by
  induction j with
  | zero => intro s; simp [stN]
  | succ j ih => intro s; rw [show j + 1 + k = (j + k) + 1 by omega]; exact ih (nextN s)
theorem stN_succ (k s : Nat) : stN (k + 1) s = nextN (stN k s) := stN_add k 1 s
theorem stN_lt (k : Nat) : ∀ s, s < 32768 → stN k s < 32768 := by
  induction k with
  | zero => intro s h; exact h
  | succ k ih => intro s _; exact ih _ (nextN_lt s)
theorem stN_zero (k : Nat) : ∀ s, s < 32768 → (stN k s = 0 ↔ s = 0) := by
  induction k with
  | zero => intro s _; exact Iff.rfl
  | succ k ih => intro s h; exact (ih _ (nextN_lt s)).trans (nextN_zero s h)
/-- the number of so many bits, the first the highest -/
def numN : Nat → Nat → Nat
  | 0, _ => 0
  | k + 1, s => 2 * numN k s + bitN (stN k s)
theorem numN_lt (k s : Nat) : numN k s < 2 ^ k := by
  induction k with
  | zero => exact Nat.one_pos
  | succ k ih =>
    have := bitN_lt (stN k s)
    simp only [numN, Nat.pow_succ]
    omega
def byteN (s : Nat) : UInt8 := UInt8.ofNat (numN 8 s)
theorem byteN_num (s : Nat) : (byteN s).toNat = numN 8 s := by
  have := numN_lt 8 s
  unfold byteN
  rw [UInt8.toNat_ofNat', Nat.mod_eq_of_lt (by omega)]
/-- so many bytes -/
def strmN : Nat → Nat → List UInt8
  | 0, _ => []
  | n + 1, s => byteN s :: strmN n (stN 8 s)
theorem strmN_len (n : Nat) : ∀ s, (strmN n s).length = n := by
  induction n with
  | zero => intro s; rfl
  | succ n ih => intro s; simp [strmN, ih]
theorem strmN_add (m n : Nat) : ∀ s, strmN (m + n) s = strmN m s ++ strmN n (stN (8 * m) s) := by
  induction m with
  | zero => intro s; simp [strmN, stN]
  | succ m ih =>
    intro s
    rw [show m + 1 + n = (m + n) + 1 by omega, show 8 * (m + 1) = 8 + 8 * m by omega, stN_add]
    simp only [strmN, ih, List.cons_append]
theorem strmN_snoc (n s : Nat) : strmN (n + 1) s = strmN n s ++ [byteN (stN (8 * n) s)] := strmN_add n 1 s
/-- what Stream answers; what State answers -/
def streamB (i n : Int) : List UInt8 := if n < 0 ∨ 4096 < n then [] else strmN n.toNat (ownN i)
def stateI (i n : Int) : Nat := stN (if n < 32768 then n.toNat else 32768) (ownN i)
theorem stateI_lt (i n : Int) : stateI i n < 32768 := stN_lt _ _ (ownN_lt i)
theorem stateI_zero (i n : Int) : stateI i n = 0 ↔ ownN i = 0 := stN_zero _ _ (ownN_lt i)
theorem streamB_nat (i : Int) (n : Nat) (h : n ≤ 4096) : streamB i n = strmN n (ownN i) := by
  unfold streamB
  rw [if_neg (by omega), Int.toNat_natCast]
def xorB (a b : List UInt8) : List UInt8 := List.zipWith (· ^^^ ·) a b
theorem xorB_len (a b : List UInt8) (h : a.length = b.length) : (xorB a b).length = a.length := by simp [xorB, h]
theorem xorB_twice (a b : List UInt8) (h : a.length = b.length) : xorB (xorB a b) b = a := by
  induction a generalizing b with
  | nil => rfl
  | cons x r ih =>
    match b, h with
    | y :: t, h =>
      have := ih t (by simpa using h)
      unfold xorB at this ⊢
      simp only [List.zipWith_cons_cons, this, UInt8.xor_assoc, UInt8.xor_self, UInt8.xor_zero]
theorem xorB_append (a b c d : List UInt8) (h : a.length = c.length) : xorB (a ++ b) (c ++ d) = xorB a c ++ xorB b d := by
  unfold xorB
  rw [List.zipWith_append h]
theorem xorB_at (a b : List UInt8) (k : Nat) (h : k < a.length) (h' : k < b.length) : (xorB a b)[k]'(by unfold xorB; rw [List.length_zipWith]; omega) = a[k] ^^^ b[k] := by
  unfold xorB
  rw [List.getElem_zipWith]
/-- what Do answers -/
def scrB (i : Int) (b : List UInt8) : List UInt8 := xorB b (streamB i b.length)
theorem scrB_small (i : Int) (b : List UInt8) (h : b.length ≤ 4096) : scrB i b = xorB b (strmN b.length (ownN i)) := by
  unfold scrB
  rw [streamB_nat _ _ h]
theorem scrB_len (i : Int) (b : List UInt8) (h : b.length ≤ 4096) : (scrB i b).length = b.length := by
  rw [scrB_small i b h, xorB_len _ _ (strmN_len _ _).symm]
/-- P9.3 -/
theorem scrB_twice (i : Int) (b : List UInt8) (h : b.length ≤ 4096) : scrB i (scrB i b) = b := by
  have hl := scrB_len i b h
  rw [scrB_small i (scrB i b) (by omega), hl, scrB_small i b h, xorB_twice _ _ (strmN_len _ _).symm]
theorem scrB_append (i : Int) (a b : List UInt8) (h : a.length + b.length ≤ 4096) : scrB i (a ++ b) = scrB i a ++ scrB ((stateI i (8 * (a.length : Int)) : Nat) : Int) b := by
  rw [scrB_small i (a ++ b) (by simpa using h), List.length_append, strmN_add, xorB_append _ _ _ _ (strmN_len _ _).symm, scrB_small i a (by omega), scrB_small _ b (by omega), ownN_nat _ (stateI_lt _ _)]
  unfold stateI
  by_cases h2 : 8 * (a.length : Int) < 32768
  · rw [if_pos h2, show (8 * (a.length : Int)).toNat = 8 * a.length by omega]
  · rw [if_neg h2, show 8 * a.length = 32768 by omega]
theorem scrB_xor (i : Int) (a b : List UInt8) (h : a.length = b.length) (ha : a.length ≤ 4096) : scrB i (xorB a b) = xorB (scrB i a) b := by
  have hl := xorB_len a b h
  rw [scrB_small i (xorB a b) (by omega), hl, scrB_small i a ha]
  have hs := strmN_len a.length (ownN i)
  generalize strmN a.length (ownN i) = s at *
  clear hl ha
  induction a generalizing b s with
  | nil => rfl
  | cons x r ih =>
    match b, s, h, hs with
    | y :: t, z :: u, h, hs =>
      have := ih t (by simpa using h) u (by simpa using hs)
      unfold xorB at this ⊢
      simp only [List.zipWith_cons_cons, this, UInt8.xor_assoc, UInt8.xor_comm y z]
end Go.Proofs.YtkcpkfimmolkkaaDoor

/- Plain facts on words of eight bits that stand for half bytes. Nothing of the program is in here. -/
namespace Go.Proofs.YtkcpkfimmolkkaaDoor

def bitA (n at_ : Nat) : Nat := n / 2 ^ at_ % 2
theorem bitA_lt (n i : Nat) : bitA n i < 2 := Nat.mod_lt _ (by decide)
/-- the word of a half byte -/
def wordN (h : Nat) : Nat :=
  (bitA h 0 + bitA h 1 + bitA h 2 + bitA h 3 + (bitA h 0 + bitA h 1 + bitA h 3) % 2 + (bitA h 0 + bitA h 2 + bitA h 3) % 2 + (bitA h 1 + bitA h 2 + bitA h 3) % 2) % 2 + 2 * ((bitA h 0 + bitA h 1 + bitA h 3) % 2) + 4 * ((bitA h 0 + bitA h 2 + bitA h 3) % 2) + 8 * bitA h 0 + 16 * ((bitA h 1 + bitA h 2 + bitA h 3) % 2) + 32 * bitA h 1 + 64 * bitA h 2 + 128 * bitA h 3
theorem wordN_lt (h : Nat) : wordN h < 256 := by
  have h0 := bitA_lt h 0
  have h1 := bitA_lt h 1
  have h2 := bitA_lt h 2
  have h3 := bitA_lt h 3
  unfold wordN
  generalize bitA h 0 = a at *
  generalize bitA h 1 = b at *
  generalize bitA h 2 = c at *
  generalize bitA h 3 = d at *
  have q1 := Nat.mod_lt (a + b + d) (show 0 < 2 by decide)
  have q2 := Nat.mod_lt (a + c + d) (show 0 < 2 by decide)
  have q3 := Nat.mod_lt (b + c + d) (show 0 < 2 by decide)
  generalize (a + b + d) % 2 = one at *
  generalize (a + c + d) % 2 = two at *
  generalize (b + c + d) % 2 = four at *
  have q4 := Nat.mod_lt (a + b + c + d + one + two + four) (show 0 < 2 by decide)
  generalize (a + b + c + d + one + two + four) % 2 = all at *
  omega
/-- at how many of the first k places the bits of both are not the same -/
def apartK (a b : Nat) : Nat → Nat
  | 0 => 0
  | k + 1 => apartK a b k + if bitA a k = bitA b k then 0 else 1
def apartN (a b : Nat) : Nat := apartK a b 8
theorem apartK_le (a b k : Nat) : apartK a b k ≤ k := by
  induction k with
  | zero => exact Nat.le_refl _
  | succ k ih => simp only [apartK]; split <;> omega
/-- the first half byte, from h on, whose word is next to x -/
def halfK (x : Nat) : Nat → Option Nat
  | 0 => none
  | k + 1 => match halfK x k with
    | some h => some h
    | none => if apartN (wordN k) x ≤ 1 then some k else none
theorem halfK_none (x k : Nat) : halfK x k = none ↔ ∀ h, h < k → 1 < apartN (wordN h) x := by
  induction k with
  | zero => simp [halfK]
  | succ k ih =>
    unfold halfK
    cases hk : halfK x k with
    | some h =>
      simp only [reduceCtorEq, false_iff]
      intro hh
      have := ih.2 (fun h' hl => hh h' (by omega))
      rw [hk] at this
      cases this
    | none =>
      have hl := ih.1 hk
      by_cases h1 : apartN (wordN k) x ≤ 1
      · simp only [if_pos h1, reduceCtorEq, false_iff]
        intro hh
        have := hh k (by omega)
        omega
      · simp only [if_neg h1, true_iff]
        intro h' hl'
        by_cases e : h' = k
        · subst e; omega
        · exact hl h' (by omega)
theorem halfK_some (x k : Nat) (hk : k < 16) (hn : ∀ h, h < k → 1 < apartN (wordN h) x) (h1 : apartN (wordN k) x ≤ 1) : halfK x 16 = some k := by
  have h0 : halfK x (k + 1) = some k := by
    unfold halfK
    rw [(halfK_none x k).2 hn]
    simp only [if_pos h1]
  have key : ∀ d, halfK x (k + 1 + d) = some k := by
    intro d
    induction d with
    | zero => exact h0
    | succ d ih =>
      rw [show k + 1 + (d + 1) = (k + 1 + d) + 1 by omega]
      show (match halfK x (k + 1 + d) with | some h => some h | none => _) = _
      rw [ih]
  have := key (15 - k)
  rw [show k + 1 + (15 - k) = 16 by omega] at this
  exact this
/-- what Half answers: the half, how many bits were mended, the error -/
def halfN (x : Nat) : Nat × Nat × Nat := match halfK x 16 with
  | some h => (h, apartN (wordN h) x, 0)
  | none => (0, 0, 100)
theorem halfN_some (x k : Nat) (hk : k < 16) (hn : ∀ h, h < k → 1 < apartN (wordN h) x) (h1 : apartN (wordN k) x ≤ 1) : halfN x = (k, apartN (wordN k) x, 0) := by
  unfold halfN
  rw [halfK_some x k hk hn h1]
theorem halfN_none (x : Nat) (hn : ∀ h, h < 16 → 1 < apartN (wordN h) x) : halfN x = (0, 0, 100) := by
  unfold halfN
  rw [(halfK_none x 16).2 hn]
theorem halfK_lt (x : Nat) : ∀ k h, halfK x k = some h → h < k := by
  intro k
  induction k with
  | zero => intro h hh; simp [halfK] at hh
  | succ k ih =>
    intro h hh
    unfold halfK at hh
    cases hk : halfK x k with
    | some h' => rw [hk] at hh; simp only [Option.some.injEq] at hh; subst hh; have := ih _ hk; omega
    | none =>
      rw [hk] at hh
      simp only at hh
      split at hh
      · simp at hh; omega
      · cases hh
theorem halfN_lt (x : Nat) : (halfN x).1 < 16 ∧ (halfN x).2.1 ≤ 8 ∧ ((halfN x).2.2 = 0 ∨ (halfN x).2.2 = 100) := by
  unfold halfN
  cases hk : halfK x 16 with
  | some h => exact ⟨halfK_lt x 16 h hk, apartK_le _ _ _, .inl rfl⟩
  | none =>
    show (0 : Nat) < 16 ∧ (0 : Nat) ≤ 8 ∧ ((100 : Nat) = 0 ∨ (100 : Nat) = 100)
    exact ⟨by decide, by decide, .inr rfl⟩
/-- P10.4, word by word -/
theorem words_apart : ∀ a b : Fin 16, a ≠ b → 4 ≤ apartN (wordN a) (wordN b) := by decide +kernel
theorem word_half : ∀ a : Fin 16, halfN (wordN a) = (a.val, 0, 0) := by decide +kernel
theorem word_mend : ∀ (a : Fin 16) (i : Fin 8), halfN (wordN a ^^^ 2 ^ i.val) = (a.val, 1, 0) := by decide +kernel
theorem word_two : ∀ (a : Fin 16) (i j : Fin 8), i ≠ j → halfN (wordN a ^^^ 2 ^ i.val ^^^ 2 ^ j.val) = (0, 0, 100) := by decide +kernel

def wordB (h : Nat) : UInt8 := UInt8.ofNat (wordN h)
theorem wordB_num (h : Nat) : (wordB h).toNat = wordN h := by
  unfold wordB
  rw [UInt8.toNat_ofNat', Nat.mod_eq_of_lt (wordN_lt h)]
/-- what Pack answers -/
def packL (b : List UInt8) : List UInt8 := b.flatMap fun x => [wordB (x.toNat / 16), wordB (x.toNat % 16)]
def packB (b : List UInt8) : List UInt8 := if 4096 < b.length then [] else packL b
theorem packL_len (b : List UInt8) : (packL b).length = 2 * b.length := by
  induction b with
  | nil => rfl
  | cons x r ih =>
    have e : packL (x :: r) = [wordB (x.toNat / 16), wordB (x.toNat % 16)] ++ packL r := rfl
    rw [e, List.length_append, ih, List.length_cons]
    simp only [List.length_cons, List.length_nil]
    omega
theorem packL_take (b : List UInt8) (k : Nat) (h : k < b.length) : packL (b.take (k + 1)) = packL (b.take k) ++ [wordB (b[k].toNat / 16), wordB (b[k].toNat % 16)] := by
  rw [List.take_succ_eq_append_getElem h]
  unfold packL
  rw [List.flatMap_append]
  rfl
/-- the bytes of words, and how many bits were mended -/
def unpL : List UInt8 → Option (List UInt8 × Nat)
  | x :: y :: r => if (halfN x.toNat).2.2 = 0 ∧ (halfN y.toNat).2.2 = 0 then (unpL r).map fun p => (UInt8.ofNat (16 * (halfN x.toNat).1 + (halfN y.toNat).1) :: p.1, (halfN x.toNat).2.1 + (halfN y.toNat).2.1 + p.2) else none
  | _ => some ([], 0)
/-- what Unpack answers -/
def unpackB (w : List UInt8) : List UInt8 × Nat × Nat :=
  if 8192 < w.length then ([], 0, 2) else if w.length % 2 ≠ 0 then ([], 0, 1) else
  match unpL w with
  | some p => (p.1, p.2, 0)
  | none => ([], 0, 100)
theorem unpL_snoc (k : Nat) : ∀ (l : List UInt8) (x y : UInt8), l.length = 2 * k → ∀ o n, unpL l = some (o, n) → unpL (l ++ [x, y]) = if (halfN x.toNat).2.2 = 0 ∧ (halfN y.toNat).2.2 = 0 then some (o ++ [UInt8.ofNat (16 * (halfN x.toNat).1 + (halfN y.toNat).1)], n + (halfN x.toNat).2.1 + (halfN y.toNat).2.1) else none := by
  induction k with
  | zero =>
    intro l x y hl o n h
    have : l = [] := List.eq_nil_of_length_eq_zero (by omega)
    subst this
    simp only [unpL, Option.some.injEq, Prod.mk.injEq] at h
    obtain ⟨rfl, rfl⟩ := h
    simp [unpL]
  | succ k ih =>
    intro l x y hl o n h
    match l, hl with
    | a :: b :: r, hl =>
      simp only [List.cons_append, unpL] at h ⊢
      by_cases hab : (halfN a.toNat).2.2 = 0 ∧ (halfN b.toNat).2.2 = 0
      · rw [if_pos hab] at h ⊢
        cases hr : unpL r with
        | none => rw [hr] at h; cases h
        | some p =>
          obtain ⟨o', n'⟩ := p
          rw [hr] at h
          simp only [Option.map_some, Option.some.injEq, Prod.mk.injEq] at h
          obtain ⟨rfl, rfl⟩ := h
          rw [ih r x y (by simp at hl; omega) o' n' hr]
          split
          · simp; omega
          · rfl
      · rw [if_neg hab] at h
        cases h
theorem unpL_bad (k : Nat) : ∀ (l : List UInt8) (x y : UInt8) (r : List UInt8), l.length = 2 * k → ¬ ((halfN x.toNat).2.2 = 0 ∧ (halfN y.toNat).2.2 = 0) → unpL (l ++ x :: y :: r) = none := by
  induction k with
  | zero =>
    intro l x y r hl h
    have : l = [] := List.eq_nil_of_length_eq_zero (by omega)
    subst this
    simp [unpL, if_neg h]
  | succ k ih =>
    intro l x y r hl h
    match l, hl with
    | a :: b :: t, hl =>
      simp only [List.cons_append, unpL]
      rw [ih t x y r (by simp at hl; omega) h]
      split <;> rfl
/-- P10.4: what was packed, with at most one bit of each word turned, is unpacked -/
def turn1 (x : UInt8) (t : Int) : UInt8 := if 0 ≤ t ∧ t < 8 then x ^^^ UInt8.ofNat (2 ^ t.toNat) else x
def cnt1 (t : Int) : Nat := if 0 ≤ t ∧ t < 8 then 1 else 0
/-- words turned, as far as turns go -/
def turnsL : List UInt8 → List Int → List UInt8
  | x :: r, t :: ts => turn1 x t :: turnsL r ts
  | l, _ => l
def cntL : List UInt8 → List Int → Nat
  | _ :: r, t :: ts => cnt1 t + cntL r ts
  | _, _ => 0
theorem half_turn (h : Nat) (hh : h < 16) (t : Int) : halfN (turn1 (wordB h) t).toNat = (h, cnt1 t, 0) := by
  unfold turn1 cnt1
  by_cases ht : 0 ≤ t ∧ t < 8
  · rw [if_pos ht, if_pos ht]
    have hp : (2 : Nat) ^ t.toNat < 256 := by
      have : (2 : Nat) ^ t.toNat ≤ 2 ^ 7 := Nat.pow_le_pow_right (by decide) (by omega)
      omega
    rw [UInt8.toNat_xor, wordB_num, UInt8.toNat_ofNat', Nat.mod_eq_of_lt hp]
    exact word_mend ⟨h, hh⟩ ⟨t.toNat, by omega⟩
  · rw [if_neg ht, if_neg ht, wordB_num]
    exact word_half ⟨h, hh⟩
theorem half_plain (h : Nat) (hh : h < 16) : halfN (wordB h).toNat = (h, 0, 0) := by
  rw [wordB_num]
  exact word_half ⟨h, hh⟩
theorem byte_halves (x : UInt8) : UInt8.ofNat (16 * (x.toNat / 16) + x.toNat % 16) = x := by
  rw [show 16 * (x.toNat / 16) + x.toNat % 16 = x.toNat by omega]
  simp
theorem unpL_turns (b : List UInt8) : ∀ ts, unpL (turnsL (packL b) ts) = some (b, cntL (packL b) ts) := by
  induction b with
  | nil => intro ts; cases ts <;> rfl
  | cons x r ih =>
    intro ts
    have hx := x.toNat_lt
    have e : packL (x :: r) = wordB (x.toNat / 16) :: wordB (x.toNat % 16) :: packL r := rfl
    have p1 := half_plain (x.toNat / 16) (by omega)
    have p2 := half_plain (x.toNat % 16) (by omega)
    rw [e]
    match ts with
    | [] =>
      have h0 := ih []
      have e0 : turnsL (packL r) [] = packL r := by cases packL r <;> rfl
      have e1 : cntL (packL r) [] = 0 := by cases packL r <;> rfl
      rw [e0, e1] at h0
      simp only [turnsL, cntL, unpL, p1, p2, h0, and_self, if_true, Option.map_some, byte_halves, Nat.add_zero]
    | [t] =>
      have h0 := ih []
      have e0 : turnsL (packL r) [] = packL r := by cases packL r <;> rfl
      have e1 : cntL (packL r) [] = 0 := by cases packL r <;> rfl
      rw [e0, e1] at h0
      have q1 := half_turn (x.toNat / 16) (by omega) t
      simp only [turnsL, cntL, unpL, q1, p2, h0, and_self, if_true, Option.map_some, byte_halves, Nat.add_zero]
    | t :: u :: ts =>
      have q1 := half_turn (x.toNat / 16) (by omega) t
      have q2 := half_turn (x.toNat % 16) (by omega) u
      simp only [turnsL, cntL, unpL, q1, q2, ih ts, and_self, if_true, Option.map_some, byte_halves, Nat.add_assoc]
end Go.Proofs.YtkcpkfimmolkkaaDoor

/- Plain facts on bits that are laid apart: the order in which they are read, bits of bytes, bytes of bits, there and back. Nothing of the program is in here. -/
namespace Go.Proofs.YtkcpkfimmolkkaaDoor

/-- a column's numbers, of the first k rows -/
def colL (n cols c k : Nat) : List Nat := ((List.range k).filter fun r => decide (r * cols + c < n)).map fun r => r * cols + c
/-- the first k columns' numbers -/
def orderK (n rows cols k : Nat) : List Nat := (List.range k).flatMap fun c => colL n cols c rows
def colsN (n rows : Nat) : Nat := (n + rows - 1) / rows
def orderW (n rows : Nat) : List Nat := orderK n rows (colsN n rows) (colsN n rows)
theorem colL_succ (n cols c k : Nat) : colL n cols c (k + 1) = if k * cols + c < n then colL n cols c k ++ [k * cols + c] else colL n cols c k := by
  unfold colL
  rw [List.range_succ, List.filter_append]
  by_cases h : k * cols + c < n
  · rw [if_pos h]
    simp [h]
  · rw [if_neg h]
    simp [h]
theorem orderK_succ (n rows cols k : Nat) : orderK n rows cols (k + 1) = orderK n rows cols k ++ colL n cols k rows := by
  unfold orderK
  rw [List.range_succ, List.flatMap_append]
  simp
theorem colsN_ge (n rows : Nat) (hr : 1 ≤ rows) : n ≤ colsN n rows * rows := by
  unfold colsN
  have h := Nat.div_add_mod (n + rows - 1) rows
  have h2 := Nat.mod_lt (n + rows - 1) (show 0 < rows by omega)
  rw [Nat.mul_comm]
  omega
theorem colsN_lt (n rows c : Nat) (hr : 1 ≤ rows) (h : c < colsN n rows) : c * rows < n := by
  unfold colsN at h
  have h1 := (Nat.le_div_iff_mul_le (show 0 < rows by omega)).1 (show c + 1 ≤ (n + rows - 1) / rows by omega)
  rw [Nat.add_mul] at h1
  omega
theorem mem_col {n cols c k x : Nat} : x ∈ colL n cols c k ↔ ∃ r, r < k ∧ r * cols + c < n ∧ x = r * cols + c := by
  unfold colL
  simp only [List.mem_map, List.mem_filter, List.mem_range, decide_eq_true_eq]
  constructor
  · rintro ⟨r, ⟨h1, h2⟩, rfl⟩; exact ⟨r, h1, h2, rfl⟩
  · rintro ⟨r, h1, h2, rfl⟩; exact ⟨r, ⟨h1, h2⟩, rfl⟩
theorem mem_order {n rows x : Nat} (hr : 1 ≤ rows) : x ∈ orderW n rows ↔ x < n := by
  unfold orderW orderK
  simp only [List.mem_flatMap, List.mem_range, mem_col]
  constructor
  · rintro ⟨c, _, r, _, h, rfl⟩; exact h
  · intro hx
    have hge := colsN_ge n rows hr
    have hc : 0 < colsN n rows := by
      rcases Nat.eq_zero_or_pos (colsN n rows) with h | h
      · rw [h] at hge; omega
      · exact h
    generalize colsN n rows = cols at *
    have hd := Nat.div_add_mod x cols
    rw [Nat.mul_comm] at hd
    exact ⟨x % cols, Nat.mod_lt _ hc, x / cols, Nat.div_lt_of_lt_mul (by omega), by omega, hd.symm⟩
theorem order_nodup (n rows : Nat) : (orderW n rows).Nodup := by
  unfold orderW orderK
  generalize hcc : colsN n rows = cols
  rw [List.Nodup, List.pairwise_flatMap]
  refine ⟨fun c hc => ?_, ?_⟩
  · have hc' : c < cols := List.mem_range.1 hc
    unfold colL
    rw [List.pairwise_map, List.pairwise_filter]
    refine List.Pairwise.imp ?_ (List.nodup_range (n := rows))
    intro a b hab _ _ e
    have : a * cols = b * cols := by omega
    exact hab (Nat.eq_of_mul_eq_mul_right (by omega) this)
  · refine List.Pairwise.imp_of_mem ?_ (List.nodup_range (n := cols))
    intro a b ha hb hab x hx y hy e
    have ha' := List.mem_range.1 ha
    have hb' := List.mem_range.1 hb
    obtain ⟨r, _, _, rfl⟩ := mem_col.1 hx
    obtain ⟨s, _, _, rfl⟩ := mem_col.1 hy
    have h1 : (r * cols + a) % cols = a := by rw [Nat.mul_comm, Nat.mul_add_mod, Nat.mod_eq_of_lt ha']
    have h2 : (s * cols + b) % cols = b := by rw [Nat.mul_comm, Nat.mul_add_mod, Nat.mod_eq_of_lt hb']
    rw [e, h2] at h1
    exact hab h1.symm
theorem order_len (n rows : Nat) (hr : 1 ≤ rows) : (orderW n rows).length = n := by
  have h := (List.perm_ext_iff_of_nodup (order_nodup n rows) (List.nodup_range (n := n))).2 (fun a => by rw [mem_order hr, List.mem_range])
  have := h.length_eq
  rwa [List.length_range] at this
theorem colL_full (cols rows c : Nat) (hc : c < cols) : colL (cols * rows) cols c rows = (List.range rows).map fun r => r * cols + c := by
  unfold colL
  congr 1
  rw [List.filter_eq_self]
  intro r hr
  have h := List.mem_range.1 hr
  have h2 : (r + 1) * cols ≤ rows * cols := Nat.mul_le_mul_right _ h
  rw [Nat.add_mul] at h2
  rw [decide_eq_true_eq, Nat.mul_comm cols rows]
  omega
theorem colsN_full (cols rows : Nat) (hr : 1 ≤ rows) : colsN (cols * rows) rows = cols := by
  unfold colsN
  rw [show cols * rows + rows - 1 = (rows - 1) + rows * cols by rw [Nat.mul_comm]; omega, Nat.add_mul_div_left _ _ (by omega), Nat.div_eq_of_lt (by omega), Nat.zero_add]
theorem order_full (cols rows : Nat) (hr : 1 ≤ rows) : ∀ k, k ≤ cols → (orderK (cols * rows) rows cols k).length = k * rows ∧ ∀ at_, at_ < k * rows → (orderK (cols * rows) rows cols k)[at_]? = some (at_ % rows * cols + at_ / rows) := by
  intro k
  induction k with
  | zero => intro _; simp [orderK]
  | succ k ih =>
    intro hk
    obtain ⟨i1, i2⟩ := ih (by omega)
    rw [orderK_succ, colL_full cols rows k (by omega)]
    refine ⟨by simp [i1, Nat.add_mul], fun at_ ha => ?_⟩
    by_cases h : at_ < k * rows
    · rw [List.getElem?_append_left (by omega)]
      exact i2 at_ h
    · rw [Nat.add_mul] at ha
      rw [List.getElem?_append_right (by omega), i1, List.getElem?_map, List.getElem?_range (by omega)]
      have e1 : at_ / rows = k := by
        have h3 : at_ = rows * k + (at_ - k * rows) := by rw [Nat.mul_comm]; omega
        rw [h3, Nat.mul_add_div (by omega), Nat.div_eq_of_lt (by omega)]
        omega
      have e2 : at_ % rows = at_ - k * rows := by
        have h3 := Nat.div_add_mod at_ rows
        rw [e1, Nat.mul_comm] at h3
        omega
      rw [e1, e2]
      simp
/-- what Place answers -/
def placeN (n rows at_ : Nat) : Nat := (orderW n rows).getD at_ 0
theorem place_full (cols rows at_ : Nat) (hr : 1 ≤ rows) (h : at_ < cols * rows) : placeN (cols * rows) rows at_ = at_ % rows * cols + at_ / rows := by
  unfold placeN orderW
  rw [colsN_full cols rows hr, List.getD_eq_getElem?_getD, (order_full cols rows hr cols (Nat.le_refl _)).2 at_ h]
  rfl
/-- P11.4 -/
theorem place_apart (cols rows a o : Nat) (hr : 1 ≤ rows) (ho : 1 ≤ o) (hor : o < rows) (h : a + o < cols * rows) :
    (cols : Int) - 1 ≤ (placeN (cols * rows) rows a : Int) - placeN (cols * rows) rows (a + o) ∨ (cols : Int) - 1 ≤ (placeN (cols * rows) rows (a + o) : Int) - placeN (cols * rows) rows a := by
  rw [place_full cols rows a hr (by omega), place_full cols rows (a + o) hr h]
  have hd := Nat.div_add_mod a rows
  have hm := Nat.mod_lt a (show 0 < rows by omega)
  generalize a / rows = q at *
  generalize a % rows = r at *
  by_cases hro : r + o < rows
  · have e1 : (a + o) / rows = q := by
      rw [← hd, Nat.add_assoc, Nat.mul_add_div (by omega), Nat.div_eq_of_lt hro]; omega
    have e2 : (a + o) % rows = r + o := by
      rw [← hd, Nat.add_assoc, Nat.mul_add_mod, Nat.mod_eq_of_lt hro]
    rw [e1, e2, Nat.add_mul]
    have : cols ≤ o * cols := Nat.le_mul_of_pos_left _ (by omega)
    right
    omega
  · have e0 : a + o = rows * (q + 1) + (r + o - rows) := by rw [Nat.mul_add]; omega
    have e1 : (a + o) / rows = q + 1 := by
      rw [e0, Nat.mul_add_div (by omega), Nat.div_eq_of_lt (by omega)]
    have e2 : (a + o) % rows = r + o - rows := by
      rw [e0, Nat.mul_add_mod, Nat.mod_eq_of_lt (by omega)]
    rw [e1, e2]
    have e3 : r * cols = (r + o - rows) * cols + (rows - o) * cols := by rw [← Nat.add_mul]; congr 1; omega
    have : cols ≤ (rows - o) * cols := Nat.le_mul_of_pos_left _ (by omega)
    left
    omega

/-- a byte's bits, the highest first; bytes' bits -/
def bitL (x : UInt8) : List Nat := [x.toNat / 128 % 2, x.toNat / 64 % 2, x.toNat / 32 % 2, x.toNat / 16 % 2, x.toNat / 8 % 2, x.toNat / 4 % 2, x.toNat / 2 % 2, x.toNat / 1 % 2]
def bitsW (b : List UInt8) : List Nat := b.flatMap bitL
theorem bitL_len (x : UInt8) : (bitL x).length = 8 := rfl
theorem bitsW_len (b : List UInt8) : (bitsW b).length = 8 * b.length := by
  induction b with
  | nil => rfl
  | cons x r ih =>
    have e : bitsW (x :: r) = bitL x ++ bitsW r := rfl
    rw [e, List.length_append, ih, bitL_len, List.length_cons]
    omega
theorem bitsW_take (b : List UInt8) (k : Nat) (h : k < b.length) : bitsW (b.take (k + 1)) = bitsW (b.take k) ++ bitL b[k] := by
  rw [List.take_succ_eq_append_getElem h]
  unfold bitsW
  rw [List.flatMap_append]
  simp
theorem bitsW_bit (b : List UInt8) : ∀ x ∈ bitsW b, x ≤ 1 := by
  intro x hx
  obtain ⟨y, _, h⟩ := List.mem_flatMap.1 hx
  simp only [bitL, List.mem_cons, List.not_mem_nil, or_false] at h
  omega
/-- the number of bits, the first the highest -/
def numBt (l : List Nat) : Nat := l.foldl (fun n x => 2 * n + x) 0
theorem numBt_snoc (l : List Nat) (x : Nat) : numBt (l ++ [x]) = 2 * numBt l + x := by simp [numBt, List.foldl_append]
theorem numBt_lt (l : List Nat) (h : ∀ x ∈ l, x ≤ 1) (k : Nat) : numBt (l.take k) < 2 ^ k := by
  induction k with
  | zero => simp [numBt]
  | succ k ih =>
    by_cases hk : k < l.length
    · rw [List.take_succ_eq_append_getElem hk, numBt_snoc]
      have := h _ (List.getElem_mem hk)
      rw [Nat.pow_succ]
      omega
    · rw [List.take_of_length_le (by omega)] at ih ⊢
      rw [Nat.pow_succ]
      omega
/-- bytes of bits, eight a byte -/
def textK (l : List Nat) (k : Nat) : List UInt8 := (List.range k).map fun i => UInt8.ofNat (numBt ((l.drop (8 * i)).take 8))
def textW (l : List Nat) : List UInt8 := textK l (l.length / 8)
theorem textK_succ (l : List Nat) (k : Nat) : textK l (k + 1) = textK l k ++ [UInt8.ofNat (numBt ((l.drop (8 * k)).take 8))] := by
  unfold textK
  rw [List.range_succ, List.map_append]
  rfl
theorem textW_cons (a l : List Nat) (ha : a.length = 8) : textW (a ++ l) = UInt8.ofNat (numBt a) :: textW l := by
  unfold textW textK
  rw [List.length_append, ha, show (8 + l.length) / 8 = l.length / 8 + 1 by omega, List.range_succ_eq_map, List.map_cons, List.map_map]
  congr 1
  · rw [Nat.mul_zero, List.drop_zero, List.take_append_of_le_length (by omega), ← ha, List.take_length]
  · apply List.map_congr_left
    intro i _
    show UInt8.ofNat (numBt (((a ++ l).drop (8 * (i + 1))).take 8)) = _
    rw [show 8 * (i + 1) = a.length + 8 * i by omega, List.drop_append, List.drop_of_length_le (by omega), List.nil_append, Nat.add_sub_cancel_left]
theorem byte_bits : ∀ x : Fin 256, numBt (bitL (UInt8.ofNat x.val)) = x.val := by decide +kernel
theorem num_bitL (x : UInt8) : UInt8.ofNat (numBt (bitL x)) = x := by
  have h := byte_bits ⟨x.toNat, x.toNat_lt⟩
  simp only [UInt8.ofNat_toNat] at h
  rw [h]
  simp
theorem textW_bitsW (b : List UInt8) : textW (bitsW b) = b := by
  induction b with
  | nil => rfl
  | cons x r ih =>
    have e : bitsW (x :: r) = bitL x ++ bitsW r := rfl
    rw [e, textW_cons _ _ (bitL_len x), num_bitL, ih]
theorem bits_byte : ∀ a b c d e f g h : Fin 2, bitL (UInt8.ofNat (numBt [a.val, b.val, c.val, d.val, e.val, f.val, g.val, h.val])) = [a.val, b.val, c.val, d.val, e.val, f.val, g.val, h.val] := by decide +kernel
theorem bitL_num (a : List Nat) (ha : a.length = 8) (h : ∀ x ∈ a, x ≤ 1) : bitL (UInt8.ofNat (numBt a)) = a := by
  match a, ha with
  | [a, b, c, d, e, f, g, i], _ =>
    simp only [List.mem_cons, List.not_mem_nil, or_false, forall_eq_or_imp, forall_eq] at h
    obtain ⟨h1, h2, h3, h4, h5, h6, h7, h8⟩ := h
    exact bits_byte ⟨a, by omega⟩ ⟨b, by omega⟩ ⟨c, by omega⟩ ⟨d, by omega⟩ ⟨e, by omega⟩ ⟨f, by omega⟩ ⟨g, by omega⟩ ⟨i, by omega⟩
theorem bitsW_textW (m : Nat) : ∀ l : List Nat, l.length = 8 * m → (∀ x ∈ l, x ≤ 1) → bitsW (textW l) = l := by
  induction m with
  | zero =>
    intro l hl _
    have : l = [] := List.eq_nil_of_length_eq_zero (by omega)
    subst this
    rfl
  | succ m ih =>
    intro l hl h
    have e : l = l.take 8 ++ l.drop 8 := (List.take_append_drop 8 l).symm
    have h8 : (l.take 8).length = 8 := by simp; omega
    have h1 : ∀ x ∈ l.take 8, x ≤ 1 := fun x hx => h x (List.mem_of_mem_take hx)
    have h2 := ih (l.drop 8) (by simp; omega) (fun x hx => h x (List.mem_of_mem_drop hx))
    rw [e, textW_cons _ _ h8]
    have e2 : bitsW (UInt8.ofNat (numBt (l.take 8)) :: textW (l.drop 8)) = bitL (UInt8.ofNat (numBt (l.take 8))) ++ bitsW (textW (l.drop 8)) := rfl
    rw [e2, h2, bitL_num _ h8 h1]
theorem textW_len (l : List Nat) : (textW l).length = l.length / 8 := by simp [textW, textK]

/-- read in an order; written back in it -/
def permL (o x : List Nat) : List Nat := o.map fun k => x.getD k 0
def unpermK (o x : List Nat) : Nat → List Nat
  | 0 => List.replicate x.length 0
  | k + 1 => (unpermK o x k).set (o.getD k 0) (x.getD k 0)
theorem unpermK_len (o x : List Nat) (k : Nat) : (unpermK o x k).length = x.length := by
  induction k with
  | zero => simp [unpermK]
  | succ k ih => simp [unpermK, ih]
/-- the order goes through all places once -/
def Perm (o : List Nat) (n : Nat) : Prop := o.Nodup ∧ o.length = n ∧ ∀ x, x ∈ o ↔ x < n
theorem unpermK_at (o x : List Nat) (n : Nat) (h : Perm o n) (hx : x.length = n) : ∀ k, k ≤ n → ∀ i (hi : i < o.length), i < k → (unpermK o x k).getD o[i] 0 = x.getD i 0 := by
  obtain ⟨h1, h2, h3⟩ := h
  intro k
  induction k with
  | zero => intro _ i _ hik; omega
  | succ k ih =>
    intro hk i hi hik
    have hoi := (h3 o[i]).1 (List.getElem_mem hi)
    have hlen := unpermK_len o x k
    have hko : k < o.length := by omega
    have e : o.getD k 0 = o[k] := by simp [List.getD_eq_getElem?_getD, List.getElem?_eq_getElem hko]
    simp only [unpermK, e]
    by_cases hik2 : i = k
    · subst hik2
      simp only [List.getD_eq_getElem?_getD]
      rw [List.getElem?_set_self (by omega)]
      simp
    · have hne : o[k] ≠ o[i] := fun he => hik2 ((List.getElem_inj h1).1 he).symm
      rw [List.getD_eq_getElem?_getD, List.getElem?_set_ne hne, ← List.getD_eq_getElem?_getD]
      exact ih (by omega) i hi (by omega)
theorem perm_unperm (o x : List Nat) (n : Nat) (h : Perm o n) (hx : x.length = n) : permL o (unpermK o x n) = x := by
  have hl := h.2.1
  unfold permL
  apply List.ext_getElem
  · simp; omega
  · intro i h1 h2
    rw [List.getElem_map, unpermK_at o x n h hx n (Nat.le_refl _) i (by omega) (by omega), List.getD_eq_getElem?_getD, List.getElem?_eq_getElem h2]
    rfl
theorem unperm_perm (o x : List Nat) (n : Nat) (h : Perm o n) (hx : x.length = n) : unpermK o (permL o x) n = x := by
  have hl := h.2.1
  have hpl : (permL o x).length = n := by simp [permL]; omega
  have hul := unpermK_len o (permL o x) n
  apply List.ext_getElem
  · omega
  · intro p h1 h2
    obtain ⟨i, hi, he⟩ := List.mem_iff_getElem.1 ((h.2.2 p).2 (by omega))
    have hu := unpermK_at o (permL o x) n h hpl n (Nat.le_refl _) i hi (by omega)
    rw [he] at hu
    have e1 : (unpermK o (permL o x) n).getD p 0 = (unpermK o (permL o x) n)[p] := by simp [List.getD_eq_getElem?_getD, List.getElem?_eq_getElem h1]
    have e2 : (permL o x).getD i 0 = x[p] := by
      unfold permL
      rw [List.getD_eq_getElem?_getD, List.getElem?_map, List.getElem?_eq_getElem hi, he]
      simp [List.getD_eq_getElem?_getD, List.getElem?_eq_getElem h2]
    rw [← e1, hu, e2]
theorem order_perm (n rows : Nat) (hr : 1 ≤ rows) : Perm (orderW n rows) n := ⟨order_nodup n rows, order_len n rows hr, fun _ => mem_order hr⟩
/-- may rows, and bytes, be? -/
def okW (m : Nat) (rows : Int) : Prop := m ≤ 8192 ∧ 1 ≤ rows ∧ rows ≤ 64
instance (m : Nat) (rows : Int) : Decidable (okW m rows) := by unfold okW; infer_instance
/-- what Do and Undo answer -/
def weaveB (b : List UInt8) (rows : Int) : List UInt8 := if okW b.length rows then textW (permL (orderW (8 * b.length) rows.toNat) (bitsW b)) else []
def unweaveB (b : List UInt8) (rows : Int) : List UInt8 := if okW b.length rows then textW (unpermK (orderW (8 * b.length) rows.toNat) (bitsW b) (8 * b.length)) else []
theorem permL_bit (o x : List Nat) (h : ∀ y ∈ x, y ≤ 1) : ∀ y ∈ permL o x, y ≤ 1 := by
  intro y hy
  obtain ⟨k, _, rfl⟩ := List.mem_map.1 hy
  rw [List.getD_eq_getElem?_getD]
  cases hk : x[k]? with
  | none => simp
  | some z => exact h z (List.mem_of_getElem? hk)
theorem unpermK_bit (o x : List Nat) (h : ∀ y ∈ x, y ≤ 1) (k : Nat) : ∀ y ∈ unpermK o x k, y ≤ 1 := by
  induction k with
  | zero =>
    intro y hy
    have := List.eq_of_mem_replicate hy
    omega
  | succ k ih =>
    intro y hy
    rcases List.mem_or_eq_of_mem_set hy with h1 | h1
    · exact ih y h1
    · subst h1
      rw [List.getD_eq_getElem?_getD]
      cases hk : x[k]? with
      | none => simp
      | some z => exact h z (List.mem_of_getElem? hk)
/-- P11.3 -/
theorem unweave_weave (b : List UInt8) (rows : Int) (h : okW b.length rows) : unweaveB (weaveB b rows) rows = b := by
  have hr : 1 ≤ rows.toNat := by unfold okW at h; omega
  have hp := order_perm (8 * b.length) rows.toNat hr
  have hbl := bitsW_len b
  have hpl : (permL (orderW (8 * b.length) rows.toNat) (bitsW b)).length = 8 * b.length := by simp [permL, hp.2.1]
  have hlen : (weaveB b rows).length = b.length := by
    unfold weaveB
    rw [if_pos h, textW_len, hpl]
    omega
  unfold unweaveB
  rw [hlen, if_pos h]
  unfold weaveB
  rw [if_pos h, bitsW_textW b.length _ hpl (permL_bit _ _ (bitsW_bit b)), unperm_perm _ _ _ hp hbl, textW_bitsW]
theorem weave_unweave (b : List UInt8) (rows : Int) (h : okW b.length rows) : weaveB (unweaveB b rows) rows = b := by
  have hr : 1 ≤ rows.toNat := by unfold okW at h; omega
  have hp := order_perm (8 * b.length) rows.toNat hr
  have hbl := bitsW_len b
  have hul : (unpermK (orderW (8 * b.length) rows.toNat) (bitsW b) (8 * b.length)).length = 8 * b.length := by rw [unpermK_len, hbl]
  have hlen : (unweaveB b rows).length = b.length := by
    unfold unweaveB
    rw [if_pos h, textW_len, hul]
    omega
  unfold weaveB
  rw [hlen, if_pos h]
  unfold unweaveB
  rw [if_pos h, bitsW_textW b.length _ hul (unpermK_bit _ _ (bitsW_bit b) _), perm_unperm _ _ _ hp hbl, textW_bitsW]
end Go.Proofs.YtkcpkfimmolkkaaDoor

/- Plain facts on frames as points: what is sent, what is heard, from whichever side, behind whatever noise. Nothing of the program is in here. -/
namespace Go.Proofs.YtkcpkfimmolkkaaDoor

def markB : List UInt8 := [0x1a, 0xcf, 0xfc, 0x1d]
def markP : List Pt := pointsB markB
def put2 (n : Nat) : List UInt8 := [UInt8.ofNat (n / 256), UInt8.ofNat n]
def num2 (l : List UInt8) : Nat := if l.length ≤ 8 then l.foldl (fun a b => a * 256 + b.toNat) 0 else 0
/-- the bytes that are sent -/
def lineB (b : List UInt8) : List UInt8 := markB ++ packB (put2 b.length) ++ weaveB (packB (scrB 17217 b)) 8
def sendB (b : List UInt8) : List Pt × Nat := if 512 < b.length then ([], 2) else (pointsB (lineB b), 0)
def longI (n : Int) : Int := if n < 0 ∨ 512 < n then 0 else 33 + 8 * n
/-- what is heard of points of the four kinds, the mark's place known: the number's bytes, these unpacked, the number; the others' bytes, these unpacked -/
def hdH (x : List Pt) (a : Nat) : List UInt8 × Int := bytesB ((x.drop (a + 16)).take 17)
def hdU (x : List Pt) (a : Nat) : List UInt8 × Nat × Nat := unpackB (hdH x a).1
def hdN (x : List Pt) (a : Nat) : Nat := num2 (hdU x a).1
def hdC (x : List Pt) (a : Nat) : List UInt8 × Int := bytesB ((x.drop (a + 32)).take (8 * hdN x a + 1))
def hdV (x : List Pt) (a : Nat) : List UInt8 × Nat × Nat := unpackB (unweaveB (hdC x a).1 8)
def heardB (x : List Pt) (a : Nat) : List UInt8 × Nat × Nat :=
  if x.length - a < 33 then ([], 0, 120) else
  if (hdH x a).2 ≠ 0 then ([], 0, 120) else
  if (hdU x a).2.2 ≠ 0 ∨ 512 < hdN x a then ([], 0, 120) else
  if x.length - a < 33 + 8 * hdN x a then ([], 0, 120) else
  if (hdC x a).2 ≠ 0 then ([], 0, 120) else
  if (hdV x a).2.2 ≠ 0 then ([], 0, 120) else
  (scrB 17217 (hdV x a).1, (hdU x a).2.1 + (hdV x a).2.1, 0)
theorem heard_e1 {x : List Pt} {a : Nat} (h : x.length - a < 33) : heardB x a = ([], 0, 120) := by unfold heardB; rw [if_pos h]
theorem heard_e2 {x : List Pt} {a : Nat} (h : ¬ x.length - a < 33) (h2 : (hdH x a).2 ≠ 0) : heardB x a = ([], 0, 120) := by unfold heardB; rw [if_neg h, if_pos h2]
theorem heard_e3 {x : List Pt} {a : Nat} (h : ¬ x.length - a < 33) (h2 : ¬ (hdH x a).2 ≠ 0) (h3 : (hdU x a).2.2 ≠ 0 ∨ 512 < hdN x a) : heardB x a = ([], 0, 120) := by unfold heardB; rw [if_neg h, if_neg h2, if_pos h3]
theorem heard_e4 {x : List Pt} {a : Nat} (h : ¬ x.length - a < 33) (h2 : ¬ (hdH x a).2 ≠ 0) (h3 : ¬ ((hdU x a).2.2 ≠ 0 ∨ 512 < hdN x a)) (h4 : x.length - a < 33 + 8 * hdN x a) : heardB x a = ([], 0, 120) := by unfold heardB; rw [if_neg h, if_neg h2, if_neg h3, if_pos h4]
theorem heard_e5 {x : List Pt} {a : Nat} (h : ¬ x.length - a < 33) (h2 : ¬ (hdH x a).2 ≠ 0) (h3 : ¬ ((hdU x a).2.2 ≠ 0 ∨ 512 < hdN x a)) (h4 : ¬ x.length - a < 33 + 8 * hdN x a) (h5 : (hdC x a).2 ≠ 0) : heardB x a = ([], 0, 120) := by unfold heardB; rw [if_neg h, if_neg h2, if_neg h3, if_neg h4, if_pos h5]
theorem heard_e6 {x : List Pt} {a : Nat} (h : ¬ x.length - a < 33) (h2 : ¬ (hdH x a).2 ≠ 0) (h3 : ¬ ((hdU x a).2.2 ≠ 0 ∨ 512 < hdN x a)) (h4 : ¬ x.length - a < 33 + 8 * hdN x a) (h5 : ¬ (hdC x a).2 ≠ 0) (h6 : (hdV x a).2.2 ≠ 0) : heardB x a = ([], 0, 120) := by unfold heardB; rw [if_neg h, if_neg h2, if_neg h3, if_neg h4, if_neg h5, if_pos h6]
theorem heard_ok {x : List Pt} {a : Nat} (h : ¬ x.length - a < 33) (h2 : ¬ (hdH x a).2 ≠ 0) (h3 : ¬ ((hdU x a).2.2 ≠ 0 ∨ 512 < hdN x a)) (h4 : ¬ x.length - a < 33 + 8 * hdN x a) (h5 : ¬ (hdC x a).2 ≠ 0) (h6 : ¬ (hdV x a).2.2 ≠ 0) : heardB x a = (scrB 17217 (hdV x a).1, (hdU x a).2.1 + (hdV x a).2.1, 0) := by unfold heardB; rw [if_neg h, if_neg h2, if_neg h3, if_neg h4, if_neg h5, if_neg h6]
/-- what Hear answers -/
def HearR (l : List Pt) (r : List UInt8 × Nat × Nat) : Prop :=
  (16384 < l.length ∧ r = ([], 0, 2)) ∨ (l.length ≤ 16384 ∧ ∃ a t ok, FindR (slicedB l) markP a t ok ∧ r = if ok = true then heardB (slicedB l) a else ([], 0, 120))
theorem HearR.unique {l : List Pt} {r s : List UInt8 × Nat × Nat} (h : HearR l r) (k : HearR l s) : r = s := by
  rcases h with ⟨h1, h2⟩ | ⟨h1, a, t, ok, h2, h3⟩
  · rcases k with ⟨k1, k2⟩ | ⟨k1, _⟩
    · rw [h2, k2]
    · omega
  · rcases k with ⟨k1, _⟩ | ⟨k1, a', t', ok', k2, k3⟩
    · omega
    · obtain ⟨rfl, rfl, rfl⟩ := h2.unique k2
      rw [h3, k3]
theorem heard_of {x : List Pt} {a m1 m2 : Nat} {h c n s : List UInt8} {N : Nat} (h1 : 33 + 8 * N ≤ x.length - a) (h2 : bytesB ((x.drop (a + 16)).take 17) = (h, 0)) (h3 : unpackB h = (n, m1, 0)) (h4 : num2 n = N) (h5 : N ≤ 512)
    (h6 : bytesB ((x.drop (a + 32)).take (8 * N + 1)) = (c, 0)) (h7 : unpackB (unweaveB c 8) = (s, m2, 0)) : heardB x a = (scrB 17217 s, m1 + m2, 0) := by
  have e1 : hdH x a = (h, 0) := h2
  have e2 : hdU x a = (n, m1, 0) := by unfold hdU; rw [e1]; exact h3
  have e3 : hdN x a = N := by unfold hdN; rw [e2]; exact h4
  have e4 : hdC x a = (c, 0) := by unfold hdC; rw [e3]; exact h6
  have e5 : hdV x a = (s, m2, 0) := by unfold hdV; rw [e4]; exact h7
  rw [heard_ok (by omega) (by rw [e1]; simp) (by rw [e2, e3]; simp only; omega) (by rw [e3]; omega) (by rw [e4]; simp) (by rw [e5]; simp), e2, e5]

/-- points of the four kinds stay what they are -/
theorem Uni.slice {p : Pt} (h : Uni p) : sliceP p = p := by
  obtain ⟨a, b⟩ := p
  unfold Uni at h
  simp only at h
  unfold sliceP
  obtain ⟨rfl | rfl, rfl | rfl⟩ := h <;> rfl
theorem uni_rot1 {p : Pt} (h : Uni p) : Uni (rot1 p) := by
  obtain ⟨a, b⟩ := p
  unfold Uni at h ⊢
  simp only [rot1] at h ⊢
  omega
theorem uni_rotN {p : Pt} (n : Nat) (h : Uni p) : Uni (rotN n p) := by
  induction n generalizing p with
  | zero => exact h
  | succ n ih => rw [rotN_succ]; exact ih (uni_rot1 h)
theorem uni_unit (q : Nat) : Uni (unit q) := uni_rotN q (by unfold Uni; decide)
theorem uni_walk (s : List Nat) : ∀ z, Uni z → ∀ p ∈ walkP z s, Uni p := by
  induction s with
  | nil => intro z _ p hp; cases hp
  | cons k r ih =>
    intro z hz p hp
    rcases List.mem_cons.1 hp with rfl | hp
    · exact uni_rotN k hz
    · exact ih _ (uni_rotN k hz) p hp
theorem uni_turn (l : List Pt) (k : Int) (h : ∀ p ∈ l, Uni p) : ∀ p ∈ turnB l k, Uni p := by
  intro p hp
  obtain ⟨x, hx, rfl⟩ := List.mem_map.1 hp
  exact uni_rotN _ (h x hx)
theorem uni_points (b : List UInt8) : ∀ p ∈ pointsB b, Uni p := by
  unfold pointsB
  split
  · intro p hp; cases hp
  · intro p hp
    rcases List.mem_cons.1 hp with rfl | hp
    · exact uni_unit 0
    · exact uni_walk _ _ (uni_unit 0) p hp
theorem sliced_uni (l : List Pt) (h : ∀ p ∈ l, Uni p) : slicedB l = l := by
  unfold slicedB
  conv => rhs; rw [← List.map_id l]
  exact List.map_congr_left (fun p hp => (h p hp).slice)
theorem sliced_append (l m : List Pt) : slicedB (l ++ m) = slicedB l ++ slicedB m := by unfold slicedB; exact List.map_append
theorem sliced_len (l : List Pt) : (slicedB l).length = l.length := by unfold slicedB; simp

/-- a window of points tells the bytes there -/
theorem walkP_take (s : List Nat) : ∀ (z : Pt) (m : Nat), (walkP z s).take m = walkP z (s.take m) := by
  induction s with
  | nil => intro z m; cases m <;> rfl
  | cons k r ih =>
    intro z m
    cases m with
    | zero => rfl
    | succ m => simp only [walkP, List.take_succ_cons, ih]
theorem walk_drop (s : List Nat) : ∀ (q m : Nat), q < 4 → m ≤ s.length → ∃ q', q' < 4 ∧ (unit q :: walkP (unit q) s).drop m = unit q' :: walkP (unit q') (s.drop m) := by
  induction s with
  | nil =>
    intro q m hq hm
    obtain rfl : m = 0 := by simpa using hm
    exact ⟨q, hq, rfl⟩
  | cons k r ih =>
    intro q m hq hm
    cases m with
    | zero => exact ⟨q, hq, rfl⟩
    | succ m =>
      obtain ⟨q', h1, h2⟩ := ih ((q + k) % 4) m (by omega) (by simpa using hm)
      refine ⟨q', h1, ?_⟩
      rw [List.drop_succ_cons, List.drop_succ_cons, ← h2]
      simp only [walkP, unit_rot]
theorem stepsB_append (a b : List UInt8) : stepsB (a ++ b) = stepsB a ++ stepsB b := by unfold stepsB; exact List.flatMap_append
theorem stepsB_parts (b : List UInt8) (i : Nat) : stepsB b = stepsB (b.take i) ++ stepsB (b.drop i) := by rw [← stepsB_append, List.take_append_drop]
theorem stepsB_drop (b : List UInt8) (i : Nat) (h : i ≤ b.length) : stepsB (b.drop i) = (stepsB b).drop (4 * i) := by
  have hl : (stepsB (b.take i)).length = 4 * i := by rw [stepsB_len, List.length_take]; omega
  rw [stepsB_parts b i, List.drop_left' hl]
theorem stepsB_take' (b : List UInt8) (i : Nat) (h : i ≤ b.length) : stepsB (b.take i) = (stepsB b).take (4 * i) := by
  have hl : (stepsB (b.take i)).length = 4 * i := by rw [stepsB_len, List.length_take]; omega
  rw [stepsB_parts b i, List.take_left' hl]
theorem points_window (B : List UInt8) (i j : Nat) (hB : B.length ≤ 4096) (h : i + j ≤ B.length) : ∃ q, q < 4 ∧ ((pointsB B).drop (4 * i)).take (4 * j + 1) = unit q :: walkP (unit q) (stepsB ((B.drop i).take j)) := by
  unfold pointsB
  rw [if_neg (by omega)]
  obtain ⟨q, hq, e⟩ := walk_drop (stepsB B) 0 (4 * i) (by decide) (by rw [stepsB_len]; omega)
  refine ⟨q, hq, ?_⟩
  have e0 : (1, 1) :: walkP (1, 1) (stepsB B) = unit 0 :: walkP (unit 0) (stepsB B) := rfl
  rw [e0, e, List.take_succ_cons, walkP_take, stepsB_take' _ _ (by rw [List.length_drop]; omega), stepsB_drop _ _ (by omega)]
theorem bytes_walk (C : List UInt8) (q : Nat) (k : Int) (hC : C.length ≤ 4096) : bytesB (turnB (unit q :: walkP (unit q) (stepsB C)) k) = (C, 0) := by
  have hl : (turnB (unit q :: walkP (unit q) (stepsB C)) k).length = 4 * C.length + 1 := by
    unfold turnB
    rw [List.length_map, List.length_cons, walkP_len, stepsB_len]
  have hs : stepsP (turnB (unit q :: walkP (unit q) (stepsB C)) k) = ints (stepsB C) := stepsP_walk k (stepsB C) (stepsB_lt C) q
  have hk : 0 ≤ kindI ((turnB (unit q :: walkP (unit q) (stepsB C)) k).getD 0 (0, 0)) := by
    unfold turnB
    simp only [List.map_cons, List.getD_cons_zero]
    have : rotK k (unit q) = unit ((q + rest4 k) % 4) := unit_rot q (rest4 k)
    rw [this, kindI_unit _ (by omega)]
    omega
  unfold bytesB
  rw [if_neg (by omega), if_neg (by omega), hs, if_neg (by rintro ⟨x, hx, h0⟩; obtain ⟨j, _, rfl⟩ := List.mem_map.1 hx; have : (0 : Int) ≤ Int.ofNat j := Int.natCast_nonneg j; omega), pkRun_steps]
theorem turn_window (l : List Pt) (k : Int) (i j : Nat) : ((turnB l k).drop i).take j = turnB ((l.drop i).take j) k := by unfold turnB; rw [← List.map_drop, ← List.map_take]
theorem window_bytes (B : List UInt8) (k : Int) (i j : Nat) (hB : B.length ≤ 4096) (h : i + j ≤ B.length) : bytesB (((turnB (pointsB B) k).drop (4 * i)).take (4 * j + 1)) = ((B.drop i).take j, 0) := by
  obtain ⟨q, -, e⟩ := points_window B i j hB h
  rw [turn_window, e]
  exact bytes_walk _ q k (by rw [List.length_take, List.length_drop]; omega)
theorem line_plen (B : List UInt8) (h : B.length ≤ 4096) : (pointsB B).length = 4 * B.length + 1 := by
  unfold pointsB
  rw [if_neg (by omega), List.length_cons, walkP_len, stepsB_len]

/-- what was packed is unpacked -/
theorem unpack_pack (b : List UInt8) (h : b.length ≤ 4096) : unpackB (packB b) = (b, 0, 0) := by
  have hl := packL_len b
  have h0 := unpL_turns b []
  have e0 : turnsL (packL b) [] = packL b := by cases packL b <;> rfl
  have e1 : cntL (packL b) [] = 0 := by cases packL b <;> rfl
  rw [e0, e1] at h0
  have e : packB b = packL b := by unfold packB; rw [if_neg (by omega)]
  rw [e]
  unfold unpackB
  rw [if_neg (by omega), if_neg (by omega), h0]
theorem num_put2 (n : Nat) (h : n ≤ 512) : num2 (put2 n) = n := by
  unfold num2 put2
  rw [if_pos (by simp)]
  simp only [List.foldl_cons, List.foldl_nil, UInt8.toNat_ofNat', Nat.zero_mul, Nat.zero_add]
  omega
theorem packB_len (b : List UInt8) (h : b.length ≤ 4096) : (packB b).length = 2 * b.length := by
  unfold packB
  rw [if_neg (by omega)]
  exact packL_len b
theorem weaveB_len (b : List UInt8) (rows : Int) (h : okW b.length rows) : (weaveB b rows).length = b.length := by
  have hp := order_perm (8 * b.length) rows.toNat (by unfold okW at h; omega)
  unfold weaveB
  rw [if_pos h, textW_len]
  unfold permL
  rw [List.length_map, hp.2.1]
  omega
section
variable (b : List UInt8) (h : b.length ≤ 512)
include h
theorem body_len : (packB (scrB 17217 b)).length = 2 * b.length := by rw [packB_len _ (by rw [scrB_len _ _ (by omega)]; omega), scrB_len _ _ (by omega)]
theorem body_ok : okW (packB (scrB 17217 b)).length 8 := by unfold okW; rw [body_len b h]; omega
theorem lineB_len : (lineB b).length = 8 + 2 * b.length := by
  unfold lineB
  rw [List.length_append, List.length_append, packB_len _ (by simp [put2]), weaveB_len _ _ (body_ok b h), body_len b h]
  simp [markB, put2]
omit h in
theorem line_head : ((lineB b).drop 4).take 4 = packB (put2 b.length) := by
  have hp : (packB (put2 b.length)).length = 4 := by rw [packB_len _ (by simp [put2])]; rfl
  unfold lineB
  rw [List.append_assoc, List.drop_append, List.drop_of_length_le (by simp [markB]), List.nil_append, show 4 - markB.length = 0 from rfl, List.drop_zero, List.take_append_of_le_length (by omega), List.take_of_length_le (by omega)]
theorem line_tail : ((lineB b).drop 8).take (2 * b.length) = weaveB (packB (scrB 17217 b)) 8 := by
  have hp : (markB ++ packB (put2 b.length)).length = 8 := by rw [List.length_append, packB_len _ (by simp [put2])]; rfl
  have hw : (weaveB (packB (scrB 17217 b)) 8).length = 2 * b.length := by rw [weaveB_len _ _ (body_ok b h), body_len b h]
  unfold lineB
  rw [List.drop_append, List.drop_of_length_le (by omega), List.nil_append, hp, Nat.sub_self, List.drop_zero, List.take_of_length_le (by omega)]
theorem line_points : (pointsB (lineB b)).length = 33 + 8 * b.length := by rw [line_plen _ (by rw [lineB_len b h]; omega), lineB_len b h]; omega
/-- what is heard of what was sent, at its place -/
theorem heard_sent (noise tail : List Pt) (k : Int) : heardB (noise ++ turnB (pointsB (lineB b)) k ++ tail) noise.length = (b, 0, 0) := by
  have hll := lineB_len b h
  have hlp : (turnB (pointsB (lineB b)) k).length = 33 + 8 * b.length := by unfold turnB; rw [List.length_map, line_points b h]
  have hwin : ∀ i j, i + j ≤ 33 + 8 * b.length → ((noise ++ turnB (pointsB (lineB b)) k ++ tail).drop (noise.length + i)).take j = ((turnB (pointsB (lineB b)) k).drop i).take j := by
    intro i j hij
    rw [List.append_assoc, List.drop_append, List.drop_of_length_le (by omega), List.nil_append, Nat.add_sub_cancel_left, List.drop_append_of_le_length (by omega), List.take_append_of_le_length (by rw [List.length_drop]; omega)]
  have w1 := window_bytes (lineB b) k 4 4 (by omega) (by omega)
  have w2 := window_bytes (lineB b) k 8 (2 * b.length) (by omega) (by omega)
  rw [line_head b] at w1
  rw [line_tail b h, show 4 * (2 * b.length) + 1 = 8 * b.length + 1 by omega] at w2
  have r := heard_of (x := noise ++ turnB (pointsB (lineB b)) k ++ tail) (a := noise.length) (N := b.length) (by rw [List.length_append, List.length_append, hlp]; omega)
    (by rw [hwin 16 17 (by omega)]; exact w1) (unpack_pack (put2 b.length) (by simp [put2])) (num_put2 _ h) h
    (by rw [hwin 32 _ (by omega)]; exact w2) (by rw [unweave_weave _ _ (body_ok b h)]; exact unpack_pack _ (by rw [scrB_len _ _ (by omega)]; omega))
  rw [r, scrB_twice _ _ (by omega)]
/-- P12.3 -/
theorem line_back (noise tail : List Pt) (k : Int) (t : Nat) (hl : (noise ++ turnB (pointsB (lineB b)) k ++ tail).length ≤ 16384)
    (hf : FindR (slicedB (noise ++ turnB (pointsB (lineB b)) k)) markP noise.length t true) : HearR (noise ++ turnB (pointsB (lineB b)) k ++ tail) (b, 0, 0) := by
  have hlp : (turnB (pointsB (lineB b)) k).length = 33 + 8 * b.length := by unfold turnB; rw [List.length_map, line_points b h]
  have hmk : markP.length = 17 := by decide +kernel
  have hsl : slicedB (turnB (pointsB (lineB b)) k) = turnB (pointsB (lineB b)) k := sliced_uni _ (uni_turn _ _ (uni_points _))
  refine .inr ⟨hl, noise.length, t, true, ?_, ?_⟩
  · have hst : ∀ a u, a ≤ noise.length → (St (slicedB (noise ++ turnB (pointsB (lineB b)) k ++ tail)) markP a u ↔ St (slicedB (noise ++ turnB (pointsB (lineB b)) k)) markP a u) := by
      intro a u ha
      have hll : (slicedB (noise ++ turnB (pointsB (lineB b)) k)).length = noise.length + (33 + 8 * b.length) := by rw [sliced_len, List.length_append, hlp]
      unfold St
      rw [sliced_append _ tail, List.drop_append_of_le_length (by omega), List.take_append_of_le_length (by rw [List.length_drop]; omega)]
    rcases hf with ⟨-, p1, q1, r1, s1, m1, n1⟩ | ⟨e, _⟩
    · refine .inl ⟨rfl, p1, ?_, r1, (hst _ _ (Nat.le_refl _)).2 s1, fun u hu => fun hs => m1 u hu ((hst _ _ (Nat.le_refl _)).1 hs), fun a ha u hu hs => n1 a ha u hu ((hst _ _ (by omega)).1 hs)⟩
      rw [sliced_len] at q1 ⊢
      rw [List.length_append]
      omega
    · cases e
  · rw [if_pos rfl, sliced_append, sliced_append, hsl]
    have := heard_sent b h (slicedB noise) (slicedB tail) k
    rw [sliced_len] at this
    rw [this]
end
end Go.Proofs.YtkcpkfimmolkkaaDoor

/- Plain facts on frames as points: one point that is another one is mended (P12.4). Nothing of the program is in here. -/
namespace Go.Proofs.YtkcpkfimmolkkaaDoor

/-- points of the four kinds are bytes -/
theorem uni_kind {p : Pt} (h : Uni p) : 0 ≤ kindI p := by
  obtain ⟨a, b⟩ := p
  unfold Uni at h
  simp only at h
  obtain ⟨rfl | rfl, rfl | rfl⟩ := h <;> decide +kernel
theorem uni_step {p q : Pt} (hp : Uni p) (hq : Uni q) : 0 ≤ stepI p q := by
  have h1 := uni_kind hp
  have h2 := uni_kind hq
  unfold stepI
  rw [if_neg (by omega)]
  omega
theorem stepsP_get (l : List Pt) : ∀ (i : Nat) (h : i + 1 < l.length) (h' : i < (stepsP l).length), (stepsP l)[i] = stepI (l[i]'(by omega)) l[i + 1] := by
  match l with
  | [] => intro i h; simp at h
  | [a] => intro i h; simp at h
  | a :: b :: r =>
    intro i h h'
    cases i with
    | zero => rfl
    | succ i =>
      have := stepsP_get (b :: r) i (by simpa using h) (by simpa [stepsP] using h')
      simpa [stepsP] using this
theorem pk_four (o : List UInt8) (a b c d : Fin 4) : (ints [a.val, b.val, c.val, d.val]).foldl pkStep ⟨o, 0, 0⟩ = ⟨o ++ [UInt8.ofNat (4 * (4 * (4 * a.val + b.val) + c.val) + d.val)], 0, 0⟩ := by
  show (⟨o ++ [UInt8.ofNat (4 * (4 * (4 * (4 * 0 + a.val) + b.val) + c.val) + d.val)], 0, 0⟩ : Pk) = _
  rw [Nat.mul_zero, Nat.zero_add]
theorem two_four : ∀ a b c d : Fin 4, [twoB (UInt8.ofNat (4 * (4 * (4 * a.val + b.val) + c.val) + d.val)) 0, twoB (UInt8.ofNat (4 * (4 * (4 * a.val + b.val) + c.val) + d.val)) 1, twoB (UInt8.ofNat (4 * (4 * (4 * a.val + b.val) + c.val) + d.val)) 2, twoB (UInt8.ofNat (4 * (4 * (4 * a.val + b.val) + c.val) + d.val)) 3] = [a.val, b.val, c.val, d.val] := by decide +kernel
theorem pk_steps (m : Nat) : ∀ (s : List Nat) (o : List UInt8), s.length = 4 * m → (∀ x ∈ s, x < 4) → ∃ r, (ints s).foldl pkStep ⟨o, 0, 0⟩ = ⟨o ++ r, 0, 0⟩ ∧ stepsB r = s ∧ r.length = m := by
  induction m with
  | zero =>
    intro s o hl _
    have : s = [] := List.eq_nil_of_length_eq_zero (by omega)
    subst this
    exact ⟨[], by simp [ints], rfl, rfl⟩
  | succ m ih =>
    intro s o hl h
    match s, hl with
    | a :: b :: c :: d :: t, hl =>
      simp only [List.mem_cons, forall_eq_or_imp] at h
      obtain ⟨ha, hb, hc, hd, ht⟩ := h
      have p := pk_four o ⟨a, ha⟩ ⟨b, hb⟩ ⟨c, hc⟩ ⟨d, hd⟩
      have q := two_four ⟨a, ha⟩ ⟨b, hb⟩ ⟨c, hc⟩ ⟨d, hd⟩
      simp only at p q
      obtain ⟨r, r1, r2, r3⟩ := ih t (o ++ [UInt8.ofNat (4 * (4 * (4 * a + b) + c) + d)]) (by simp at hl; omega) ht
      refine ⟨UInt8.ofNat (4 * (4 * (4 * a + b) + c) + d) :: r, ?_, ?_, by simp; omega⟩
      · have e : ints (a :: b :: c :: d :: t) = ints [a, b, c, d] ++ ints t := rfl
        rw [e, List.foldl_append, p, r1, List.append_assoc]
        rfl
      · have e : stepsB (UInt8.ofNat (4 * (4 * (4 * a + b) + c) + d) :: r) = [twoB (UInt8.ofNat (4 * (4 * (4 * a + b) + c) + d)) 0, twoB (UInt8.ofNat (4 * (4 * (4 * a + b) + c) + d)) 1, twoB (UInt8.ofNat (4 * (4 * (4 * a + b) + c) + d)) 2, twoB (UInt8.ofNat (4 * (4 * (4 * a + b) + c) + d)) 3] ++ stepsB r := rfl
        rw [e, q, r2]
        rfl
theorem bytes_uni (W : List Pt) (m : Nat) (hl : W.length = 4 * m + 1) (hm : m ≤ 4096) (hu : ∀ p ∈ W, Uni p) : ∃ r, bytesB W = (r, 0) ∧ r.length = m ∧ (stepsB r).length = 4 * m ∧ ∀ i (h : i + 1 < W.length), (stepsB r).getD i 0 = (stepI (W[i]'(by omega)) W[i + 1]).toNat := by
  have hsl := stepsP_len W
  have hpos : ∀ k ∈ stepsP W, 0 ≤ k ∧ k ≤ 3 := by
    intro k hk
    obtain ⟨i, hi, rfl⟩ := List.mem_iff_getElem.1 hk
    rw [stepsP_get W i (by omega) hi]
    exact ⟨uni_step (hu _ (List.getElem_mem _)) (hu _ (List.getElem_mem _)), (stepI_range _ _).2⟩
  have hin : ints ((stepsP W).map Int.toNat) = stepsP W := by
    unfold ints
    rw [List.map_map]
    conv => rhs; rw [← List.map_id (stepsP W)]
    apply List.map_congr_left
    intro k hk
    have := hpos k hk
    show ((k.toNat : Nat) : Int) = k
    omega
  obtain ⟨r, r1, r2, r3⟩ := pk_steps m ((stepsP W).map Int.toNat) [] (by rw [List.length_map, hsl]; omega) (fun x hx => by
    obtain ⟨k, hk, rfl⟩ := List.mem_map.1 hx
    have := hpos k hk
    omega)
  rw [hin] at r1
  refine ⟨r, ?_, r3, by rw [r2, List.length_map, hsl]; omega, fun i h => ?_⟩
  · have hk : ¬ (W.length % 4 ≠ 1 ∨ kindI (W.getD 0 (0, 0)) < 0) := by
      have h0 : W.getD 0 (0, 0) = W[0]'(by omega) := by simp [List.getD_eq_getElem?_getD, List.getElem?_eq_getElem (show 0 < W.length by omega)]
      rw [h0]
      have := uni_kind (hu _ (List.getElem_mem (show 0 < W.length by omega)))
      omega
    unfold bytesB
    rw [if_neg (by omega), if_neg hk, if_neg (by rintro ⟨x, hx, h0⟩; have := hpos x hx; omega)]
    unfold pkRun
    rw [r1]
    rfl
  · rw [r2, List.getD_eq_getElem?_getD, List.getElem?_map, List.getElem?_eq_getElem (show i < (stepsP W).length by omega), stepsP_get W i h (by omega)]
    rfl

/-- bits, by steps -/
theorem pair_get (f g : Nat → Nat) (hf : f 0 = 0) (hg : g 0 = 0) (s : List Nat) : ∀ k, (s.flatMap fun d => [f d, g d]).getD k 0 = if k % 2 = 0 then f (s.getD (k / 2) 0) else g (s.getD (k / 2) 0) := by
  induction s with
  | nil => intro k; simp [hf, hg]
  | cons d r ih =>
    intro k
    match k with
    | 0 => rfl
    | 1 => rfl
    | k + 2 =>
      have e : ((d :: r).flatMap fun d => [f d, g d]).getD (k + 2) 0 = (r.flatMap fun d => [f d, g d]).getD k 0 := rfl
      rw [e, ih k, show (k + 2) % 2 = k % 2 by omega, show (k + 2) / 2 = k / 2 + 1 by omega]
      rfl
theorem byte_pairs : ∀ x : Fin 256, bitL (UInt8.ofNat x.val) = [twoB (UInt8.ofNat x.val) 0, twoB (UInt8.ofNat x.val) 1, twoB (UInt8.ofNat x.val) 2, twoB (UInt8.ofNat x.val) 3].flatMap fun d => [d / 2 % 2, d % 2] := by decide +kernel
theorem bits_steps (b : List UInt8) : bitsW b = (stepsB b).flatMap fun d => [d / 2 % 2, d % 2] := by
  induction b with
  | nil => rfl
  | cons x r ih =>
    have h := byte_pairs ⟨x.toNat, x.toNat_lt⟩
    simp only [UInt8.ofNat_toNat] at h
    have e : bitsW (x :: r) = bitL x ++ bitsW r := rfl
    have e2 : stepsB (x :: r) = [twoB x 0, twoB x 1, twoB x 2, twoB x 3] ++ stepsB r := rfl
    rw [e, e2, List.flatMap_append, ← ih, h]
theorem bits_same {b c : List UInt8} (k : Nat) (h : (stepsB b).getD (k / 2) 0 = (stepsB c).getD (k / 2) 0) : (bitsW b).getD k 0 = (bitsW c).getD k 0 := by
  rw [bits_steps, bits_steps, pair_get _ _ rfl rfl, pair_get _ _ rfl rfl, h]

/-- bytes that differ in one bit at most -/
theorem byte_set : ∀ (x : Fin 256) (u : Fin 8), UInt8.ofNat (numBt ((bitL (UInt8.ofNat x.val)).set u.val (1 - (bitL (UInt8.ofNat x.val)).getD u.val 0))) = turn1 (UInt8.ofNat x.val) (7 - (u.val : Int)) := by decide +kernel
theorem bitL_bit (x : UInt8) (u : Nat) : (bitL x).getD u 0 ≤ 1 := by
  rw [List.getD_eq_getElem?_getD]
  cases h : (bitL x)[u]? with
  | none => simp
  | some z =>
    have := List.mem_of_getElem? h
    simp only [bitL, List.mem_cons, List.not_mem_nil, or_false] at this
    show z ≤ 1
    omega
theorem byte_one (x y : UInt8) (h : ∀ u v, u < 8 → v < 8 → (bitL x).getD u 0 ≠ (bitL y).getD u 0 → (bitL x).getD v 0 ≠ (bitL y).getD v 0 → u = v) : ∃ t, y = turn1 x t := by
  have hx := num_bitL x
  have hy := num_bitL y
  by_cases hall : ∀ u, u < 8 → (bitL x).getD u 0 = (bitL y).getD u 0
  · refine ⟨-1, ?_⟩
    have e : bitL x = bitL y := List.ext_getElem (by rw [bitL_len, bitL_len]) (fun i h1 h2 => by
      have := hall i (by rw [bitL_len] at h1; exact h1)
      rwa [List.getD_eq_getElem?_getD, List.getD_eq_getElem?_getD, List.getElem?_eq_getElem h1, List.getElem?_eq_getElem h2] at this)
    rw [← hy, ← e, hx]
    rfl
  · obtain ⟨u, hu⟩ := Classical.not_forall.1 hall
    obtain ⟨hu, hne⟩ := Classical.not_imp.1 hu
    refine ⟨7 - (u : Int), ?_⟩
    have hs := byte_set ⟨x.toNat, x.toNat_lt⟩ ⟨u, hu⟩
    simp only [UInt8.ofNat_toNat] at hs
    rw [← hs, ← hy]
    congr 2
    refine List.ext_getElem (by simp [bitL_len]) (fun i h1 h2 => ?_)
    rw [bitL_len] at h1
    have ex : (bitL x)[i]? = some ((bitL x).getD i 0) := by rw [List.getD_eq_getElem?_getD, List.getElem?_eq_getElem (by rw [bitL_len]; exact h1)]; rfl
    have ey : (bitL y)[i]'(by rw [bitL_len]; exact h1) = (bitL y).getD i 0 := by rw [List.getD_eq_getElem?_getD, List.getElem?_eq_getElem (by rw [bitL_len]; exact h1)]; rfl
    by_cases he : u = i
    · subst he
      have b1 := bitL_bit x u
      have b2 := bitL_bit y u
      rw [List.getElem_set_self, ey]
      omega
    · rw [List.getElem_set_ne he, ey]
      have hi : (bitL x).getD i 0 = (bitL y).getD i 0 := Classical.byContradiction fun hn => he (h u i hu h1 hne hn)
      rw [← hi]
      rw [List.getElem?_eq_getElem (by rw [bitL_len]; exact h1)] at ex
      injection ex with ex
      exact ex.symm
theorem bits_byte_at (w : List UInt8) : ∀ (j u : Nat) (h : j < w.length), u < 8 → (bitL w[j]).getD u 0 = (bitsW w).getD (8 * j + u) 0 := by
  induction w with
  | nil => intro j u h; cases h
  | cons x r ih =>
    intro j u h hu
    have e : bitsW (x :: r) = bitL x ++ bitsW r := rfl
    cases j with
    | zero =>
      rw [e, List.getD_eq_getElem?_getD, List.getD_eq_getElem?_getD, List.getElem?_append_left (by rw [bitL_len]; omega)]
      simp
    | succ j =>
      have := ih j u (by simpa using h) hu
      rw [List.getElem_cons_succ, this, e, List.getD_eq_getElem?_getD, List.getD_eq_getElem?_getD, List.getElem?_append_right (by rw [bitL_len]; omega), bitL_len, show 8 * (j + 1) + u - 8 = 8 * j + u by omega]
theorem turns_of (w : List UInt8) : ∀ w' : List UInt8, w'.length = w.length → (∀ j (h : j < w.length) (h' : j < w'.length), ∃ t, w'[j] = turn1 w[j] t) → ∃ ts, w' = turnsL w ts := by
  induction w with
  | nil =>
    intro w' hl _
    exact ⟨[], List.eq_nil_of_length_eq_zero hl⟩
  | cons x r ih =>
    intro w' hl h
    match w', hl with
    | y :: r', hl =>
      obtain ⟨t, ht⟩ := h 0 (by simp) (by simp)
      obtain ⟨ts, hts⟩ := ih r' (by simpa using hl) (fun j h1 h2 => by
        obtain ⟨t, ht⟩ := h (j + 1) (by simpa using h1) (by simpa using h2)
        exact ⟨t, ht⟩)
      refine ⟨t :: ts, ?_⟩
      simp only [List.getElem_cons_zero] at ht
      simp only [turnsL]
      rw [← ht, ← hts]

/-- four bits one behind the other come into four bytes -/
theorem unweave_bit (c : List UInt8) (hok : okW c.length 8) (i : Nat) (hi : i < 8 * c.length) : (bitsW (unweaveB c 8)).getD (placeN (8 * c.length) 8 i) 0 = (bitsW c).getD i 0 := by
  have hp := order_perm (8 * c.length) 8 (by decide)
  have hbl := bitsW_len c
  have hul := unpermK_len (orderW (8 * c.length) 8) (bitsW c) (8 * c.length)
  have hio : i < (orderW (8 * c.length) 8).length := by rw [hp.2.1]; exact hi
  unfold unweaveB
  rw [if_pos hok, show (8 : Int).toNat = 8 from rfl, bitsW_textW c.length _ (by omega) (unpermK_bit _ _ (bitsW_bit c) _)]
  have e : placeN (8 * c.length) 8 i = (orderW (8 * c.length) 8)[i] := by unfold placeN; rw [List.getD_eq_getElem?_getD, List.getElem?_eq_getElem hio]; rfl
  rw [e]
  exact unpermK_at _ _ _ hp hbl _ (Nat.le_refl _) i hio hi
theorem unweave_len (c : List UInt8) (hok : okW c.length 8) : (unweaveB c 8).length = c.length := by
  unfold unweaveB
  rw [if_pos hok, textW_len, unpermK_len, bitsW_len]
  omega
theorem place_of (N x : Nat) (h : x < N) : ∃ i, i < N ∧ placeN N 8 i = x := by
  have hp := order_perm N 8 (by decide)
  obtain ⟨i, hi, he⟩ := List.mem_iff_getElem.1 ((hp.2.2 x).2 h)
  refine ⟨i, by rw [hp.2.1] at hi; exact hi, ?_⟩
  unfold placeN
  rw [List.getD_eq_getElem?_getD, List.getElem?_eq_getElem hi, he]
  rfl
theorem unweave_mend (c c' : List UInt8) (n q : Nat) (hc : c.length = 2 * n) (hc' : c'.length = 2 * n) (hn : 5 ≤ n) (hn2 : n ≤ 512) (h : ∀ k, k < 8 * c.length → (k < q ∨ q + 4 ≤ k) → (bitsW c).getD k 0 = (bitsW c').getD k 0) :
    ∃ ts, unweaveB c' 8 = turnsL (unweaveB c 8) ts := by
  have hok : okW c.length 8 := by unfold okW; omega
  have hok' : okW c'.length 8 := by unfold okW; omega
  have hwl := unweave_len c hok
  have hwl' := unweave_len c' hok'
  refine turns_of _ _ (by omega) (fun j h1 h2 => byte_one _ _ (fun u v hu hv d1 d2 => ?_))
  rw [bits_byte_at _ j u h1 hu, bits_byte_at _ j u h2 hu] at d1
  rw [bits_byte_at _ j v h1 hv, bits_byte_at _ j v h2 hv] at d2
  obtain ⟨i1, hi1, e1⟩ := place_of (8 * c.length) (8 * j + u) (by omega)
  obtain ⟨i2, hi2, e2⟩ := place_of (8 * c.length) (8 * j + v) (by omega)
  have g1 := unweave_bit c hok i1 hi1
  have g1' := unweave_bit c' hok' i1 (by omega)
  have g2 := unweave_bit c hok i2 hi2
  have g2' := unweave_bit c' hok' i2 (by omega)
  rw [show 8 * c'.length = 8 * c.length by omega] at g1' g2'
  rw [e1] at g1 g1'
  rw [e2] at g2 g2'
  rw [g1, g1'] at d1
  rw [g2, g2'] at d2
  have k1 : q ≤ i1 ∧ i1 < q + 4 := Classical.byContradiction fun hk => d1 (h i1 hi1 (by omega))
  have k2 : q ≤ i2 ∧ i2 < q + 4 := Classical.byContradiction fun hk => d2 (h i2 hi2 (by omega))
  have hN : 8 * c.length = 2 * n * 8 := by omega
  rcases Nat.lt_trichotomy i1 i2 with hlt | heq | hlt
  · have hap := place_apart (2 * n) 8 i1 (i2 - i1) (by decide) (by omega) (by omega) (by omega)
    rw [show i1 + (i2 - i1) = i2 by omega, ← hN, e1, e2] at hap
    omega
  · subst heq
    omega
  · have hap := place_apart (2 * n) 8 i2 (i1 - i2) (by decide) (by omega) (by omega) (by omega)
    rw [show i2 + (i1 - i2) = i1 by omega, ← hN, e1, e2] at hap
    omega
/-- P12.4 -/
theorem line_mends (b : List UInt8) (at_ : Nat) (z : Pt) (h5 : 5 ≤ b.length) (h : b.length ≤ 512) (h1 : 33 ≤ at_) (h2 : at_ < 33 + 8 * b.length) (hz : Uni z) :
    ∃ m, HearR ((pointsB (lineB b)).set at_ z) (b, m, 0) := by
  have hll := lineB_len b h
  have hpl := line_points b h
  have hup := uni_points (lineB b)
  have hus : ∀ p ∈ (pointsB (lineB b)).set at_ z, Uni p := by
    intro p hp
    rcases List.mem_or_eq_of_mem_set hp with hp | rfl
    · exact hup p hp
    · exact hz
  have w1 := window_bytes (lineB b) 0 4 4 (by omega) (by omega)
  have w2 := window_bytes (lineB b) 0 8 (2 * b.length) (by omega) (by omega)
  rw [line_head b, turnB_zero] at w1
  rw [line_tail b h, turnB_zero, show 4 * (2 * b.length) + 1 = 8 * b.length + 1 by omega] at w2
  have hmk : markP.length = 17 := by decide +kernel
  have hmark : (pointsB (lineB b)).take 17 = markP := by
    have e : (lineB b).take 4 = markB := by unfold lineB; rw [List.append_assoc]; exact List.take_left' rfl
    have e2 := stepsB_take' (lineB b) 4 (by omega)
    rw [e] at e2
    unfold markP pointsB
    rw [if_neg (by omega), if_neg (by decide), List.take_succ_cons, walkP_take, ← e2]
  -- the window of the bytes
  have hW1 : (((pointsB (lineB b)).drop 32).take (8 * b.length + 1)).length = 4 * (2 * b.length) + 1 := by rw [List.length_take, List.length_drop]; omega
  have hW : (((pointsB (lineB b)).set at_ z).drop 32).take (8 * b.length + 1) = (((pointsB (lineB b)).drop 32).take (8 * b.length + 1)).set (at_ - 32) z := by
    rw [List.drop_set, if_neg (by omega), List.take_set]
  have hUW : ∀ p ∈ ((pointsB (lineB b)).drop 32).take (8 * b.length + 1), Uni p := fun p hp => hup p (List.mem_of_mem_drop (List.mem_of_mem_take hp))
  obtain ⟨c, c1, c2, c3, c4⟩ := bytes_uni _ (2 * b.length) hW1 (by omega) hUW
  have hUW' : ∀ p ∈ (((pointsB (lineB b)).drop 32).take (8 * b.length + 1)).set (at_ - 32) z, Uni p := by
    intro p hp
    rcases List.mem_or_eq_of_mem_set hp with hp | rfl
    · exact hUW p hp
    · exact hz
  obtain ⟨d, d1, d2, d3, d4⟩ := bytes_uni _ (2 * b.length) (by rw [List.length_set]; exact hW1) (by omega) hUW'
  have hcw : c = weaveB (packB (scrB 17217 b)) 8 := by
    have := w2.symm.trans c1
    simpa using this.symm
  have hbits : ∀ k, k < 8 * c.length → (k < 2 * (at_ - 33) ∨ 2 * (at_ - 33) + 4 ≤ k) → (bitsW c).getD k 0 = (bitsW d).getD k 0 := by
    intro k hk hq
    refine bits_same k ?_
    have e1 := c4 (k / 2) (by omega)
    have e2 := d4 (k / 2) (by rw [List.length_set]; omega)
    rw [e1, e2, List.getElem_set_ne (by omega), List.getElem_set_ne (by omega)]
  obtain ⟨ts, hts⟩ := unweave_mend c d b.length (2 * (at_ - 33)) c2 d2 h5 h hbits
  rw [hcw, unweave_weave _ _ (body_ok b h)] at hts
  have hscl := scrB_len 17217 b (by omega)
  have hpk : packB (scrB 17217 b) = packL (scrB 17217 b) := by unfold packB; rw [if_neg (by omega)]
  have hdl := unweave_len d (by unfold okW; omega)
  have hun : unpackB (unweaveB d 8) = (scrB 17217 b, cntL (packL (scrB 17217 b)) ts, 0) := by
    have hu := unpL_turns (scrB 17217 b) ts
    rw [← hpk, ← hts] at hu
    unfold unpackB
    rw [if_neg (by omega), if_neg (by omega), hu, hpk]
  refine ⟨0 + cntL (packL (scrB 17217 b)) ts, .inr ⟨by rw [List.length_set]; omega, 0, 0, true, ?_, ?_⟩⟩
  · rw [sliced_uni _ hus]
    refine .inl ⟨rfl, by omega, by rw [List.length_set]; omega, by decide, ?_, fun u hu => by omega, fun u hu => by omega⟩
    unfold St
    rw [List.drop_zero, hmk, List.take_set_of_le (by omega), hmark]
    exact (turnB_zero _).symm
  · rw [if_pos rfl, sliced_uni _ hus]
    have r := heard_of (x := (pointsB (lineB b)).set at_ z) (a := 0) (N := b.length) (by rw [List.length_set]; omega)
      (by rw [Nat.zero_add, List.drop_set, if_neg (by omega), List.take_set_of_le (by omega)]; exact w1) (unpack_pack (put2 b.length) (by simp [put2])) (num_put2 _ h) h
      (by rw [Nat.zero_add, hW]; exact d1) hun
    rw [r, scrB_twice _ _ (by omega)]
end Go.Proofs.YtkcpkfimmolkkaaDoor
