/- Plain facts on points held against points: the sum of products, where a mark stands, where it fits best. Nothing of the program is in here. -/
import Derived.Test.YtmpelpmgpklidaaPhM
namespace Go.Proofs.Ytmpelpmgpklidaa

def termP (p q : Pt) : Pt := (p.1 * q.1 + p.2 * q.2, p.2 * q.1 - p.1 * q.2)
def addP (p q : Pt) : Pt := (p.1 + q.1, p.2 + q.2)
def sumP (l : List Pt) : Pt := l.foldl addP (0, 0)
theorem sumP_snoc (l : List Pt) (p : Pt) : sumP (l ++ [p]) = addP (sumP l) p := by simp [sumP, List.foldl_append]
def dotP (a b : List Pt) : Pt := sumP (List.zipWith termP a b)
def sizeI (p : Pt) : Int := p.1 * p.1 + p.2 * p.2
theorem zip_take (a b : List Pt) (i : Nat) : List.zipWith termP (a.take i) (b.take i) = (List.zipWith termP a b).take i := by rw [List.take_zipWith]
theorem dotP_take (a b : List Pt) (i : Nat) (ha : i < a.length) (hb : i < b.length) : dotP (a.take (i + 1)) (b.take (i + 1)) = addP (dotP (a.take i) (b.take i)) (termP a[i] b[i]) := by
  unfold dotP
  rw [zip_take, zip_take, List.take_succ_eq_append_getElem (by rw [List.length_zipWith]; omega), sumP_snoc, List.getElem_zipWith]
theorem dotP_all (a b : List Pt) (i : Nat) (h : a.length ≤ i ∨ b.length ≤ i) : dotP (a.take i) (b.take i) = dotP a b := by
  unfold dotP
  rw [zip_take, List.take_of_length_le (by rw [List.length_zipWith]; omega)]
/-- parts within 100 -/
def Near (p : Pt) : Prop := -100 ≤ p.1 ∧ p.1 ≤ 100 ∧ -100 ≤ p.2 ∧ p.2 ≤ 100
theorem mul_near {a b : Int} (h1 : -100 ≤ a) (h2 : a ≤ 100) (h3 : -100 ≤ b) (h4 : b ≤ 100) : -10000 ≤ a * b ∧ a * b ≤ 10000 := by
  have h : (a * b).natAbs ≤ 10000 := by
    rw [Int.natAbs_mul]
    exact Nat.le_trans (Nat.mul_le_mul (show a.natAbs ≤ 100 by omega) (show b.natAbs ≤ 100 by omega)) (by decide)
  omega
theorem term_near {p q : Pt} (hp : Near p) (hq : Near q) : -20000 ≤ (termP p q).1 ∧ (termP p q).1 ≤ 20000 ∧ -20000 ≤ (termP p q).2 ∧ (termP p q).2 ≤ 20000 := by
  obtain ⟨p1, p2, p3, p4⟩ := hp
  obtain ⟨q1, q2, q3, q4⟩ := hq
  have m1 := mul_near p1 p2 q1 q2
  have m2 := mul_near p3 p4 q3 q4
  have m3 := mul_near p3 p4 q1 q2
  have m4 := mul_near p1 p2 q3 q4
  unfold termP
  simp only
  omega
theorem sum_bound (B : Int) (l : List Pt) (h : ∀ p ∈ l, -B ≤ p.1 ∧ p.1 ≤ B ∧ -B ≤ p.2 ∧ p.2 ≤ B) : -(B * l.length) ≤ (sumP l).1 ∧ (sumP l).1 ≤ B * l.length ∧ -(B * l.length) ≤ (sumP l).2 ∧ (sumP l).2 ≤ B * l.length := by
  have key : ∀ (l : List Pt) (s : Pt) (c : Int), (∀ p ∈ l, -B ≤ p.1 ∧ p.1 ≤ B ∧ -B ≤ p.2 ∧ p.2 ≤ B) → (-c ≤ s.1 ∧ s.1 ≤ c ∧ -c ≤ s.2 ∧ s.2 ≤ c) → -(c + B * l.length) ≤ (l.foldl addP s).1 ∧ (l.foldl addP s).1 ≤ c + B * l.length ∧ -(c + B * l.length) ≤ (l.foldl addP s).2 ∧ (l.foldl addP s).2 ≤ c + B * l.length := by
    intro l
    induction l with
    | nil => intro s c _ h2; simpa using h2
    | cons p r ih =>
      intro s c h1 h2
      have hp := h1 p (by simp)
      have := ih (addP s p) (c + B) (fun x hx => h1 x (by simp [hx])) (by unfold addP; simp only; omega)
      rw [List.foldl_cons]
      have e : c + B * ((p :: r).length : Int) = c + B + B * (r.length : Int) := by
        rw [List.length_cons, Int.natCast_add, Int.mul_add]; simp; omega
      rw [e]
      exact this
  have := key l (0, 0) 0 h (by decide)
  simpa [sumP] using this
theorem dot_near (a b : List Pt) (ha : ∀ p ∈ a, Near p) (hb : ∀ p ∈ b, Near p) (hl : b.length ≤ 400) : -8000000 ≤ (dotP a b).1 ∧ (dotP a b).1 ≤ 8000000 ∧ -8000000 ≤ (dotP a b).2 ∧ (dotP a b).2 ≤ 8000000 := by
  have h := sum_bound 20000 (List.zipWith termP a b) (fun p hp => by
    obtain ⟨i, hi, rfl⟩ := List.mem_iff_getElem.1 hp
    rw [List.length_zipWith] at hi
    rw [List.getElem_zipWith]
    exact term_near (ha _ (List.getElem_mem (by omega))) (hb _ (List.getElem_mem (by omega))))
  have hlen : ((List.zipWith termP a b).length : Int) ≤ 400 := by rw [List.length_zipWith]; omega
  unfold dotP
  omega

/-- the mark, turned, stands in l at that place -/
def St (l mark : List Pt) (a t : Nat) : Prop := (l.drop a).take mark.length = turnB mark t
/-- what Find answers -/
def FindR (l mark : List Pt) (a t : Nat) (ok : Bool) : Prop :=
  (ok = true ∧ 0 < mark.length ∧ a + mark.length ≤ l.length ∧ t < 4 ∧ St l mark a t ∧ (∀ u, u < t → ¬ St l mark a u) ∧ ∀ b, b < a → ∀ u, u < 4 → ¬ St l mark b u) ∨
  (ok = false ∧ a = 0 ∧ t = 0 ∧ (mark.length = 0 ∨ ∀ b, b + mark.length ≤ l.length → ∀ u, u < 4 → ¬ St l mark b u))
theorem FindR.unique {l mark : List Pt} {a t a' t' : Nat} {ok ok' : Bool} (h : FindR l mark a t ok) (h' : FindR l mark a' t' ok') : a = a' ∧ t = t' ∧ ok = ok' := by
  rcases h with ⟨e1, p1, q1, r1, s1, m1, n1⟩ | ⟨e1, x1, y1, z1⟩
  · rcases h' with ⟨e2, p2, q2, r2, s2, m2, n2⟩ | ⟨e2, x2, y2, z2⟩
    · have ha : a = a' := by
        rcases Nat.lt_trichotomy a a' with h | h | h
        · exact absurd s1 (n2 a h t r1)
        · exact h
        · exact absurd s2 (n1 a' h t' r2)
      subst ha
      refine ⟨rfl, ?_, by rw [e1, e2]⟩
      rcases Nat.lt_trichotomy t t' with h | h | h
      · exact absurd s1 (m2 t h)
      · exact h
      · exact absurd s2 (m1 t' h)
    · rcases z2 with z2 | z2
      · omega
      · exact absurd s1 (z2 a q1 t r1)
  · rcases h' with ⟨e2, p2, q2, r2, s2, m2, n2⟩ | ⟨e2, x2, y2, z2⟩
    · rcases z1 with z1 | z1
      · omega
      · exact absurd s2 (z1 a' q2 t' r2)
    · exact ⟨by omega, by omega, by rw [e1, e2]⟩
theorem rotK_nat (t : Nat) (h : t < 4) : rotK (t : Int) = rotN t := by
  funext p
  unfold rotK
  rw [rest4_nat, Nat.mod_eq_of_lt h]
theorem turnB_add (l : List Pt) (k n : Int) : turnB (turnB l k) n = turnB l (k + n) := by
  unfold turnB
  rw [List.map_map]
  congr 1
  funext p
  exact rotK_add k n p
theorem turnB_mod (l : List Pt) (k n : Int) (h : k % 4 = n % 4) : turnB l k = turnB l n := by
  unfold turnB
  congr 1
  funext p
  unfold rotK rest4
  rw [h]
theorem turnB_zero (l : List Pt) : turnB l 0 = l := by
  unfold turnB
  have : rotK 0 = id := by funext p; rfl
  rw [this, List.map_id]
theorem St_turn (l mark : List Pt) (k : Int) (a t : Nat) : St (turnB l k) mark a t ↔ St l mark a (rest4 ((t : Int) - k)) := by
  have e : ((turnB l k).drop a).take mark.length = turnB ((l.drop a).take mark.length) k := by unfold turnB; rw [← List.map_drop, ← List.map_take]
  unfold St
  rw [e, rest4_cast, turnB_mod mark (((t : Int) - k) % 4) ((t : Int) - k) (by omega)]
  constructor
  · intro h
    have h2 : turnB (turnB ((l.drop a).take mark.length) k) (-k) = turnB (turnB mark t) (-k) := by rw [h]
    rw [turnB_add, turnB_add, turnB_mod _ (k + -k) 0 (by omega), turnB_zero] at h2
    rw [h2]
    rfl
  · intro h
    rw [h, turnB_add, turnB_mod mark ((t : Int) - k + k) (t : Int) (by omega)]
/-- who looks from another side finds the mark at the same place -/
theorem find_turned {l mark : List Pt} {k : Int} {a t a' t' : Nat} {ok ok' : Bool} (h : FindR l mark a t ok) (h' : FindR (turnB l k) mark a' t' ok') : a = a' ∧ ok = ok' := by
  have hlen : (turnB l k).length = l.length := by unfold turnB; simp
  have key : ∀ b, (∀ u, u < 4 → ¬ St (turnB l k) mark b u) → ∀ u, u < 4 → ¬ St l mark b u := by
    intro b hb u hu hs
    refine hb (rest4 ((u : Int) + k)) (rest4_lt _) ((St_turn l mark k b _).2 ?_)
    have : rest4 ((rest4 ((u : Int) + k) : Int) - k) = u := by rw [rest4_cast]; unfold rest4; omega
    rw [this]
    exact hs
  have key2 : ∀ b, (∀ u, u < 4 → ¬ St l mark b u) → ∀ u, u < 4 → ¬ St (turnB l k) mark b u := by
    intro b hb u hu hs
    exact hb _ (rest4_lt _) ((St_turn l mark k b u).1 hs)
  rcases h with ⟨e1, p1, q1, r1, s1, m1, n1⟩ | ⟨e1, x1, y1, z1⟩
  · rcases h' with ⟨e2, p2, q2, r2, s2, m2, n2⟩ | ⟨e2, x2, y2, z2⟩
    · refine ⟨?_, by rw [e1, e2]⟩
      rcases Nat.lt_trichotomy a a' with h | h | h
      · exact absurd s1 (key a (n2 a h) t r1)
      · exact h
      · exact absurd s2 (key2 a' (n1 a' h) t' r2)
    · rcases z2 with z2 | z2
      · omega
      · rw [hlen] at z2
        exact absurd s1 (key a (z2 a q1) t r1)
  · rcases h' with ⟨e2, p2, q2, r2, s2, m2, n2⟩ | ⟨e2, x2, y2, z2⟩
    · rcases z1 with z1 | z1
      · omega
      · rw [hlen] at q2
        exact absurd s2 (key2 a' (z1 a' q2) t' r2)
    · exact ⟨by omega, by rw [e1, e2]⟩

/-- how well the mark fits at that place -/
def fitI (l mark : List Pt) (a : Nat) : Int := sizeI (dotP (l.drop a) mark)
/-- what Peak answers -/
def PeakR (l mark : List Pt) (a : Nat) (ok : Bool) : Prop :=
  (ok = true ∧ 0 < mark.length ∧ a + mark.length ≤ l.length ∧ (∀ b, b + mark.length ≤ l.length → fitI l mark b ≤ fitI l mark a) ∧ ∀ b, b < a → fitI l mark b < fitI l mark a) ∨
  (ok = false ∧ a = 0 ∧ (mark.length = 0 ∨ l.length < mark.length))
theorem PeakR.unique {l mark : List Pt} {a a' : Nat} {ok ok' : Bool} (h : PeakR l mark a ok) (h' : PeakR l mark a' ok') : a = a' ∧ ok = ok' := by
  rcases h with ⟨e1, p1, q1, r1, s1⟩ | ⟨e1, x1, y1⟩
  · rcases h' with ⟨e2, p2, q2, r2, s2⟩ | ⟨e2, x2, y2⟩
    · refine ⟨?_, by rw [e1, e2]⟩
      rcases Nat.lt_trichotomy a a' with h | h | h
      · have h1 := s2 a h
        have h2 := r1 a' q2
        omega
      · exact h
      · have h1 := s1 a' h
        have h2 := r2 a q1
        omega
    · omega
  · rcases h' with ⟨e2, p2, q2, r2, s2⟩ | ⟨e2, x2, y2⟩
    · omega
    · exact ⟨by omega, by rw [e1, e2]⟩

def slicedB (l : List Pt) : List Pt := l.map sliceP
/-- one of the four points -/
def Uni (p : Pt) : Prop := (p.1 = 1 ∨ p.1 = -1) ∧ (p.2 = 1 ∨ p.2 = -1)
theorem sliceP_uni (p : Pt) : Uni (sliceP p) := by
  unfold sliceP Uni
  constructor
  · show (if 0 ≤ p.1 then (1 : Int) else -1) = 1 ∨ _ = _
    split <;> simp
  · show (if 0 ≤ p.2 then (1 : Int) else -1) = 1 ∨ _ = _
    split <;> simp
theorem Uni.near {p : Pt} (h : Uni p) : Near p := by unfold Uni at h; unfold Near; omega
/-- a product of two of the four: which turn -/
theorem term_uni {p q : Pt} (hp : Uni p) (hq : Uni q) : ∃ t, t < 4 ∧ p = rotN t q ∧ termP p q = rotN t (2, 0) := by
  obtain ⟨p1, p2⟩ := p
  obtain ⟨q1, q2⟩ := q
  unfold Uni at hp hq
  simp only at hp hq
  obtain ⟨rfl | rfl, rfl | rfl⟩ := hp <;> obtain ⟨rfl | rfl, rfl | rfl⟩ := hq <;>
    first
    | exact ⟨0, by decide, by decide +kernel, by decide +kernel⟩
    | exact ⟨1, by decide, by decide +kernel, by decide +kernel⟩
    | exact ⟨2, by decide, by decide +kernel, by decide +kernel⟩
    | exact ⟨3, by decide, by decide +kernel, by decide +kernel⟩
theorem term_turn {q : Pt} (hq : Uni q) (t : Nat) (ht : t < 4) : termP (rotN t q) q = rotN t (2, 0) := by
  obtain ⟨q1, q2⟩ := q
  unfold Uni at hq
  simp only at hq
  have h4 : t = 0 ∨ t = 1 ∨ t = 2 ∨ t = 3 := by omega
  obtain ⟨rfl | rfl, rfl | rfl⟩ := hq <;> rcases h4 with rfl | rfl | rfl | rfl <;> decide +kernel
/-- a sum, by a part of it that is at most 2 each -/
theorem sum_part (f : Pt → Int) (hf : ∀ p q, f (addP p q) = f p + f q) (h0 : f (0, 0) = 0) (l : List Pt) (hl : ∀ p ∈ l, f p ≤ 2) : f (sumP l) ≤ 2 * l.length ∧ (f (sumP l) = 2 * l.length → ∀ p ∈ l, f p = 2) := by
  have key : ∀ (l : List Pt) (s : Pt), (∀ p ∈ l, f p ≤ 2) → f (l.foldl addP s) ≤ f s + 2 * l.length ∧ (f (l.foldl addP s) = f s + 2 * l.length → ∀ p ∈ l, f p = 2) := by
    intro l
    induction l with
    | nil => intro s _; exact ⟨by simp, fun _ p hp => by cases hp⟩
    | cons p r ih =>
      intro s h
      have hp := h p (by simp)
      obtain ⟨h1, h2⟩ := ih (addP s p) (fun x hx => h x (by simp [hx]))
      rw [hf] at h1 h2
      rw [List.foldl_cons, List.length_cons]
      refine ⟨by omega, fun he x hx => ?_⟩
      have h3 : f p = 2 := by omega
      rcases List.mem_cons.1 hx with rfl | hx
      · exact h3
      · exact h2 (by omega) x hx
  have := key l (0, 0) hl
  rw [h0] at this
  simpa [sumP] using this
theorem four_sq (x : Int) : 2 * x * (2 * x) = 4 * (x * x) := by
  rw [Int.mul_assoc, Int.mul_left_comm x 2 x, ← Int.mul_assoc]
  rfl
theorem square_le {X Y : Int} {N : Nat} (h1 : X + Y ≤ N) (h2 : X - Y ≤ N) (h3 : -X + Y ≤ N) (h4 : -X - Y ≤ N) : X * X + Y * Y ≤ (N : Int) * N ∧ (X * X + Y * Y = (N : Int) * N → X = N ∨ Y = N ∨ -X = N ∨ -Y = N) := by
  obtain ⟨a, ha⟩ : ∃ a, a = X.natAbs := ⟨_, rfl⟩
  obtain ⟨b, hb⟩ : ∃ b, b = Y.natAbs := ⟨_, rfl⟩
  have hab : a + b ≤ N := by omega
  have e1 : X * X = (a * a : Nat) := by rw [ha]; exact (Int.natAbs_mul_self (a := X)).symm
  have e2 : Y * Y = (b * b : Nat) := by rw [hb]; exact (Int.natAbs_mul_self (a := Y)).symm
  have h5 : (a + b) * (a + b) ≤ N * N := Nat.mul_le_mul hab hab
  have h6 : (a + b) * (a + b) = a * a + b * b + 2 * (a * b) := by rw [Nat.mul_add, Nat.add_mul, Nat.add_mul, Nat.mul_comm b a]; omega
  have e3 : (N : Int) * N = (N * N : Nat) := by simp
  rw [e1, e2, e3]
  refine ⟨by omega, fun he => ?_⟩
  have h7 : a * b = 0 := by omega
  have h8 : (a + b) * (a + b) = N * N := by omega
  have h9 : a + b = N := Nat.mul_self_inj.1 h8
  rcases Nat.mul_eq_zero.1 h7 with h | h <;> omega
theorem rot_two (t : Nat) (ht : t < 4) : rotN t ((2, 0) : Pt) = (2, 0) ∨ rotN t ((2, 0) : Pt) = (0, 2) ∨ rotN t ((2, 0) : Pt) = (-2, 0) ∨ rotN t ((2, 0) : Pt) = (0, -2) := by
  have h4 : t = 0 ∨ t = 1 ∨ t = 2 ∨ t = 3 := by omega
  rcases h4 with rfl | rfl | rfl | rfl <;> decide +kernel
/-- among points of the four kinds nothing fits better than wholly; what fits wholly is turned -/
theorem fit_uni (u v : List Pt) (hu : ∀ p ∈ u, Uni p) (hv : ∀ p ∈ v, Uni p) (hl : v.length ≤ u.length) :
    sizeI (dotP u v) ≤ 4 * ((v.length : Int) * v.length) ∧ (sizeI (dotP u v) = 4 * ((v.length : Int) * v.length) ↔ ∃ t : Nat, t < 4 ∧ u.take v.length = turnB v (t : Int)) := by
  have hzl : (List.zipWith termP u v).length = v.length := by rw [List.length_zipWith]; omega
  have hz : ∀ p ∈ List.zipWith termP u v, ∃ t, t < 4 ∧ p = rotN t (2, 0) := by
    intro p hp
    obtain ⟨i, hi, rfl⟩ := List.mem_iff_getElem.1 hp
    rw [List.length_zipWith] at hi
    rw [List.getElem_zipWith]
    obtain ⟨t, h1, _, h3⟩ := term_uni (hu _ (List.getElem_mem (show i < u.length by omega))) (hv _ (List.getElem_mem (show i < v.length by omega)))
    exact ⟨t, h1, h3⟩
  have hpart : ∀ f : Pt → Int, (∀ p q, f (addP p q) = f p + f q) → f (0, 0) = 0 → f (2, 0) ≤ 2 → f (0, 2) ≤ 2 → f (-2, 0) ≤ 2 → f (0, -2) ≤ 2 → f (dotP u v) ≤ 2 * v.length ∧ (f (dotP u v) = 2 * v.length → ∀ p ∈ List.zipWith termP u v, f p = 2) := by
    intro f h1 h2 a1 a2 a3 a4
    have := sum_part f h1 h2 (List.zipWith termP u v) (fun p hp => by
      obtain ⟨t, ht, rfl⟩ := hz p hp
      rcases rot_two t ht with h | h | h | h <;> rw [h] <;> assumption)
    rw [hzl] at this
    exact this
  have b1 := (hpart (fun p => p.1 + p.2) (fun p q => by simp only [addP]; omega) rfl (by decide) (by decide) (by decide) (by decide)).1
  have b2 := (hpart (fun p => p.1 - p.2) (fun p q => by simp only [addP]; omega) rfl (by decide) (by decide) (by decide) (by decide)).1
  have b3 := (hpart (fun p => -p.1 + p.2) (fun p q => by simp only [addP]; omega) rfl (by decide) (by decide) (by decide) (by decide)).1
  have b4 := (hpart (fun p => -p.1 - p.2) (fun p q => by simp only [addP]; omega) rfl (by decide) (by decide) (by decide) (by decide)).1
  have c1 := (hpart (fun p => p.1) (fun p q => rfl) rfl (by decide) (by decide) (by decide) (by decide)).2
  have c2 := (hpart (fun p => p.2) (fun p q => rfl) rfl (by decide) (by decide) (by decide) (by decide)).2
  have c3 := (hpart (fun p => -p.1) (fun p q => by simp only [addP]; omega) rfl (by decide) (by decide) (by decide) (by decide)).2
  have c4 := (hpart (fun p => -p.2) (fun p q => by simp only [addP]; omega) rfl (by decide) (by decide) (by decide) (by decide)).2
  have hsq := square_le (X := (dotP u v).1) (Y := (dotP u v).2) (N := 2 * v.length) (by omega) (by omega) (by omega) (by omega)
  have e4 : ((2 * v.length : Nat) : Int) * ((2 * v.length : Nat) : Int) = 4 * ((v.length : Int) * v.length) := by
    rw [Int.natCast_mul]
    exact four_sq _
  rw [e4] at hsq
  refine ⟨hsq.1, ⟨fun he => ?_, ?_⟩⟩
  · have hone : ∃ t, t < 4 ∧ ∀ p ∈ List.zipWith termP u v, p = rotN t (2, 0) := by
      have pick : ∀ (t : Nat) (f : Pt → Int), t < 4 → (∀ s, s < 4 → f (rotN s (2, 0)) = 2 → rotN s ((2, 0) : Pt) = rotN t (2, 0)) → (∀ p ∈ List.zipWith termP u v, f p = 2) → ∃ t, t < 4 ∧ ∀ p ∈ List.zipWith termP u v, p = rotN t (2, 0) := by
        intro t f ht hs hf
        refine ⟨t, ht, fun p hp => ?_⟩
        obtain ⟨s, hs4, rfl⟩ := hz p hp
        exact hs s hs4 (hf _ hp)
      have four : ∀ (P : Nat → Prop), P 0 → P 1 → P 2 → P 3 → ∀ s, s < 4 → P s := by
        intro P p0 p1 p2 p3 s hs
        have h4 : s = 0 ∨ s = 1 ∨ s = 2 ∨ s = 3 := by omega
        rcases h4 with rfl | rfl | rfl | rfl <;> assumption
      rcases hsq.2 he with h | h | h | h
      · exact pick 0 _ (by decide) (four _ (by decide +kernel) (by decide +kernel) (by decide +kernel) (by decide +kernel)) (c1 (by omega))
      · exact pick 1 _ (by decide) (four _ (by decide +kernel) (by decide +kernel) (by decide +kernel) (by decide +kernel)) (c2 (by omega))
      · exact pick 2 _ (by decide) (four _ (by decide +kernel) (by decide +kernel) (by decide +kernel) (by decide +kernel)) (c3 (by omega))
      · exact pick 3 _ (by decide) (four _ (by decide +kernel) (by decide +kernel) (by decide +kernel) (by decide +kernel)) (c4 (by omega))
    obtain ⟨t, ht, hall⟩ := hone
    refine ⟨t, ht, ?_⟩
    refine List.ext_getElem (by unfold turnB; simp; omega) (fun i h1 h2 => ?_)
    have hi : i < v.length := by simpa [turnB] using h2
    have hp := hall ((List.zipWith termP u v)[i]'(by omega)) (List.getElem_mem _)
    rw [List.getElem_zipWith] at hp
    obtain ⟨s, hs, hps, hts⟩ := term_uni (hu _ (List.getElem_mem (show i < u.length by omega))) (hv _ (List.getElem_mem hi))
    rw [hts] at hp
    have hst : s = t := by
      have h4 : s = 0 ∨ s = 1 ∨ s = 2 ∨ s = 3 := by omega
      have h5 : t = 0 ∨ t = 1 ∨ t = 2 ∨ t = 3 := by omega
      rcases h4 with rfl | rfl | rfl | rfl <;> rcases h5 with rfl | rfl | rfl | rfl <;> first | rfl | exact absurd hp (by decide +kernel)
    subst hst
    have e2 : (turnB v (s : Int))[i]'h2 = rotK (s : Int) v[i] := List.getElem_map ..
    rw [List.getElem_take, e2, rotK_nat s hs]
    exact hps
  · rintro ⟨t, ht, h⟩
    have hd : dotP u v = sumP (List.replicate v.length (rotN t (2, 0))) := by
      unfold dotP
      congr 1
      refine List.ext_getElem (by simp; omega) (fun i h1 h2 => ?_)
      have hi : i < v.length := by simpa using h2
      rw [List.getElem_zipWith, List.getElem_replicate]
      have hui : u[i]'(by omega) = rotN t v[i] := by
        have h3 : (u.take v.length)[i]'(by simp; omega) = (turnB v t)[i]'(by unfold turnB; simpa using hi) := by congr 1
        unfold turnB at h3
        rw [List.getElem_take, List.getElem_map, rotK_nat t ht] at h3
        exact h3
      rw [hui]
      exact term_turn (hv _ (List.getElem_mem hi)) t ht
    have hsum : ∀ n : Nat, sumP (List.replicate n (rotN t ((2, 0) : Pt))) = (n * (rotN t ((2, 0) : Pt)).1, n * (rotN t ((2, 0) : Pt)).2) := by
      intro n
      induction n with
      | zero => simp [sumP]
      | succ n ih =>
        rw [List.replicate_succ', sumP_snoc, ih]
        unfold addP
        simp only [Int.natCast_add, Int.add_mul]
        simp
    rw [hd, hsum]
    unfold sizeI
    rcases rot_two t ht with h | h | h | h <;> rw [h] <;> simp only [Int.mul_zero, Int.add_zero, Int.zero_add]
    · rw [Int.mul_comm _ (2 : Int)]; exact four_sq _
    · rw [Int.mul_comm _ (2 : Int)]; exact four_sq _
    · rw [Int.mul_neg, Int.neg_mul_neg, Int.mul_comm _ (2 : Int)]; exact four_sq _
    · rw [Int.mul_neg, Int.neg_mul_neg, Int.mul_comm _ (2 : Int)]; exact four_sq _
end Go.Proofs.Ytmpelpmgpklidaa
