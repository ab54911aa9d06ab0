/- Plain facts on the window engine's packets: which are right, their bytes, and back. Nothing of the program is in here. -/
import Derived.Test.YtabackggnkplhaaDoorPut
import Derived.Test.YtabackggnkplhaaDoorNum
namespace Go.Proofs.YtabackggnkplhaaDoor
open Go.RowKit
set_option maxRecDepth 20000

theorem numOf_cons (b : UInt8) (l : List UInt8) : numOf (b :: l) = b.toNat * 256 ^ l.length + numOf l := by
  have gen : ∀ (l : List UInt8) (a : Nat), l.foldl (fun a b => a * 256 + b.toNat) a = a * 256 ^ l.length + numOf l := by
    intro l
    induction l with
    | nil => intro a; simp [numOf]
    | cons x l ih =>
      intro a
      simp only [List.foldl_cons, List.length_cons, numOf] at ih ⊢
      rw [ih (a * 256 + x.toNat), ih (0 * 256 + x.toNat), Nat.pow_succ, Nat.add_mul, Nat.add_mul, Nat.mul_assoc, Nat.mul_comm 256]
      omega
  show (b :: l).foldl (fun a b => a * 256 + b.toNat) 0 = _
  rw [List.foldl_cons, gen]
  simp
theorem numOf_bound (l : List UInt8) : numOf l < 256 ^ l.length := by
  have := numOf_lt l l.length (Nat.le_refl _)
  rwa [List.take_length] at this
theorem numOf_putB (n : Nat) : ∀ k, numOf (putB n k) = n % 256 ^ k := by
  intro k
  induction k with
  | zero => simp [putB, numOf, Nat.mod_one]
  | succ k ih => rw [putB, numOf_cons, ih, putB_length, UInt8.toNat_ofNat', Nat.pow_succ 256 k, Nat.mod_mul, Nat.add_comm, Nat.mul_comm _ (256 ^ k)]
theorem putB_mod (n : Nat) : ∀ k m, k ≤ m → putB (n % 256 ^ m) k = putB n k := by
  intro k
  induction k with
  | zero => intro m _; rfl
  | succ k ih =>
    intro m hm
    rw [putB, putB, ih m (by omega)]
    congr 1
    apply UInt8.toNat_inj.1
    rw [UInt8.toNat_ofNat', UInt8.toNat_ofNat']
    obtain ⟨j, rfl⟩ : ∃ j, m = k + 1 + j := ⟨m - (k + 1), by omega⟩
    have e : (256 : Nat) ^ (k + 1 + j) = 256 ^ k * (256 * 256 ^ j) := by rw [Nat.pow_add, Nat.pow_succ, Nat.mul_assoc]
    rw [e, Nat.mod_mul_right_div_self]
    exact Nat.mod_mul_right_mod _ _ _
theorem putB_numOf (l : List UInt8) : putB (numOf l) l.length = l := by
  induction l with
  | nil => rfl
  | cons b l ih =>
    have hb := numOf_bound l
    rw [List.length_cons, putB, numOf_cons]
    have e1 : (b.toNat * 256 ^ l.length + numOf l) / 256 ^ l.length = b.toNat := by
      rw [Nat.mul_comm, Nat.mul_add_div (Nat.pow_pos (by decide)), Nat.div_eq_of_lt hb, Nat.add_zero]
    rw [e1]
    congr 1
    · simp
    · have h := putB_mod (b.toNat * 256 ^ l.length + numOf l) l.length l.length (Nat.le_refl _)
      rw [Nat.mul_comm, Nat.mul_add_mod, Nat.mod_eq_of_lt hb, ih] at h
      rw [Nat.mul_comm]
      exact h.symm
theorem numB_of (l : List UInt8) (h : l.length ≤ 8) : numB l = numOf l := by unfold numB; rw [if_pos h]

/-- a packet is right -/
def slRight (a : Bool) (s : Int) (u n : Nat) (m : Int) : Bool :=
  if s < 0 ∨ m ≤ s then false else if a then decide (n = 0) else decide (u = 0 ∧ n ≤ 64)
def slErr (a : Bool) (s : Int) (u n : Nat) (m : Int) : Int := if m < 1 ∨ 65536 < m then 1 else if slRight a s u n m then 0 else 130
/-- the bytes of a right packet -/
def slBytes (a : Bool) (s : Int) (u : Nat) (d : List UInt8) : List UInt8 := if a then 1 :: (putB s.toNat 2 ++ putB u 8) else 0 :: (putB s.toNat 2 ++ d)
def slPut (a : Bool) (s : Int) (u : Nat) (d : List UInt8) (m : Int) : List UInt8 := if slErr a s u d.length m = 0 then slBytes a s u d else []
/-- what bytes are a packet of, whether it is right or not -/
def slRaw3 (x y z : UInt8) (r : List UInt8) : Option (Bool × Nat × Nat × List UInt8) :=
  if 1 < x.toNat then none else if x.toNat = 1 then (if r.length = 8 then some (true, numOf [y, z], numOf r, []) else none) else some (false, numOf [y, z], 0, r)
def slRaw : List UInt8 → Option (Bool × Nat × Nat × List UInt8)
  | x :: y :: z :: r => slRaw3 x y z r
  | _ => none
theorem slRaw_three (x y z : UInt8) (r : List UInt8) : slRaw (x :: y :: z :: r) = slRaw3 x y z r := rfl
/-- .. and with a number m -/
def slGet (b : List UInt8) (m : Int) : Option (Bool × Nat × Nat × List UInt8) :=
  match slRaw b with
  | none => none
  | some (a, s, u, d) => if slErr a s u d.length m = 0 then some (a, s, u, d) else none
def slGetE (b : List UInt8) (m : Int) : Int := if m < 1 ∨ 65536 < m then 1 else if (slGet b m).isSome then 0 else 130
theorem slErr_zero {a : Bool} {s : Int} {u n : Nat} {m : Int} (h : slErr a s u n m = 0) : (1 ≤ m ∧ m ≤ 65536) ∧ slRight a s u n m = true := by
  unfold slErr at h
  split at h
  · omega
  · split at h
    · rename_i h2; exact ⟨by omega, h2⟩
    · omega
theorem slErr_ok {a : Bool} {s : Int} {u n : Nat} {m : Int} (h : 1 ≤ m ∧ m ≤ 65536) (hr : slRight a s u n m = true) : slErr a s u n m = 0 := by
  unfold slErr
  rw [if_neg (by omega), if_pos hr]
theorem slRight_seq {a : Bool} {s : Int} {u n : Nat} {m : Int} (h : slRight a s u n m = true) : 0 ≤ s ∧ s < m := by
  unfold slRight at h
  split at h
  · cases h
  · omega
/-- what was put is got -/
theorem slGet_put (a : Bool) (s : Int) (u : Nat) (d : List UInt8) (m : Int) (hu : u < 18446744073709551616) (h : slErr a s u d.length m = 0) : slPut a s u d m = slBytes a s u d ∧ slGet (slPut a s u d m) m = some (a, s.toNat, u, d) := by
  have e : slPut a s u d m = slBytes a s u d := by unfold slPut; rw [if_pos h]
  obtain ⟨hm, hr⟩ := slErr_zero h
  obtain ⟨hs0, hs⟩ := slRight_seq hr
  have hq : numOf (putB s.toNat 2) = s.toNat := by rw [numOf_putB, Nat.mod_eq_of_lt (by omega)]
  have hp : ∃ y z, putB s.toNat 2 = [y, z] := ⟨_, _, rfl⟩
  obtain ⟨y, z, hyz⟩ := hp
  have hst : ((s.toNat : Nat) : Int) = s := by omega
  refine ⟨e, ?_⟩
  rw [e]
  have hraw : slRaw (slBytes a s u d) = some (a, s.toNat, u, d) := by
    unfold slBytes
    cases a with
    | true =>
      have hd : d = [] := by
        unfold slRight at hr
        rw [if_neg (by omega)] at hr
        simpa using hr
      subst hd
      rw [if_pos rfl, hyz]
      show slRaw3 1 y z (putB u 8) = _
      unfold slRaw3
      rw [if_neg (by decide), if_pos (by decide), if_pos (putB_length _ _), ← hyz, hq, numOf_putB, Nat.mod_eq_of_lt (by omega)]
    | false =>
      have hd : u = 0 := by
        unfold slRight at hr
        rw [if_neg (by omega)] at hr
        simp at hr
        omega
      subst hd
      rw [if_neg (by decide), hyz]
      show slRaw3 0 y z d = _
      unfold slRaw3
      rw [if_neg (by decide), if_neg (by decide), ← hyz, hq]
  unfold slGet
  rw [hraw]
  show (if slErr a ((s.toNat : Nat) : Int) u d.length m = 0 then _ else _) = _
  rw [hst, if_pos h]
/-- .. and what was got is put -/
theorem slPut_get (b : List UInt8) (m : Int) (a : Bool) (s u : Nat) (d : List UInt8) (h : slGet b m = some (a, s, u, d)) : slErr a s u d.length m = 0 ∧ slPut a s u d m = b ∧ u < 18446744073709551616 := by
  unfold slGet at h
  match hr : slRaw b with
  | none => rw [hr] at h; cases h
  | some (a', s', u', d') =>
    rw [hr] at h
    simp only at h
    split at h
    · rename_i he
      injection h with h
      injection h with h1 h
      injection h with h2 h
      injection h with h3 h4
      subst h1; subst h2; subst h3; subst h4
      refine ⟨he, ?_⟩
      unfold slPut
      rw [if_pos he]
      match b, hr with
      | [], hr => cases hr
      | [_], hr => cases hr
      | [_, _], hr => cases hr
      | x :: y :: z :: r, hr =>
        rw [slRaw_three] at hr
        unfold slRaw3 at hr
        have hp2 : putB (numOf [y, z]) 2 = [y, z] := putB_numOf [y, z]
        split at hr
        · cases hr
        · split at hr
          · rename_i h1
            split at hr
            · rename_i h8
              injection hr with hr
              injection hr with e1 hr
              injection hr with e2 hr
              injection hr with e3 e4
              subst e1; subst e2; subst e3; subst e4
              have hx : x = 1 := UInt8.toNat_inj.1 (by rw [h1]; rfl)
              have hp8 := putB_numOf r
              rw [h8] at hp8
              refine ⟨?_, ?_⟩
              · unfold slBytes
                rw [if_pos rfl, Int.toNat_natCast, hp2, hp8, hx]
                rfl
              · have := numOf_bound r
                rw [h8] at this
                exact this
            · cases hr
          · rename_i h1 h2
            injection hr with hr
            injection hr with e1 hr
            injection hr with e2 hr
            injection hr with e3 e4
            subst e1; subst e2; subst e3; subst e4
            have hx : x = 0 := UInt8.toNat_inj.1 (by show x.toNat = 0; omega)
            refine ⟨?_, by decide⟩
            unfold slBytes
            rw [if_neg (by decide), Int.toNat_natCast, hp2, hx]
            rfl
    · cases h
end Go.Proofs.YtabackggnkplhaaDoor
