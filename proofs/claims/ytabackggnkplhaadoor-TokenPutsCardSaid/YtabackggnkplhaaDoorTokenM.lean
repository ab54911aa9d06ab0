/- Plain facts on the handshake engine's packets: which are right, their bytes, and back. Nothing of the program is in here. -/
import Derived.Test.YtabackggnkplhaaDoorSlideM
namespace Go.Proofs.YtabackggnkplhaaDoor
open Go.RowKit
set_option maxRecDepth 20000

/-- a packet is right: its kind, C, R, how many bytes of Data -/
def tkRight (k : Int) (y z n : Nat) : Bool :=
  if k = 0 then decide (y = 0 ∧ z = 0 ∧ n = 0) else if k = 1 then decide (n = 0) else if k = 2 then decide (z = 0 ∧ n ≤ 64) else if k = 3 then decide (y = 0 ∧ n = 0) else false
def tkErr (k : Int) (y z n : Nat) : Int := if tkRight k y z n then 0 else 130
def tkBytes (k : Int) (x y z : Nat) (d : List UInt8) : List UInt8 :=
  UInt8.ofNat k.toNat :: (putB x 8 ++ ((if k = 1 ∨ k = 2 then putB y 8 else []) ++ ((if k = 1 ∨ k = 3 then putB z 8 else []) ++ d)))
def tkPut (k : Int) (x y z : Nat) (d : List UInt8) : List UInt8 := if tkRight k y z d.length then tkBytes k x y z d else []
/-- what bytes are a packet of, behind the kind: T, C, R, Data -/
def tkRaw0 (l : List UInt8) : Option (Nat × Nat × Nat × List UInt8) := if l.length < 8 then none else some (numOf (l.take 8), 0, 0, l.drop 8)
def tkRaw1 (l : List UInt8) : Option (Nat × Nat × Nat × List UInt8) := if l.length < 24 then none else some (numOf (l.take 8), numOf ((l.drop 8).take 8), numOf (((l.drop 8).drop 8).take 8), ((l.drop 8).drop 8).drop 8)
def tkRaw2 (l : List UInt8) : Option (Nat × Nat × Nat × List UInt8) := if l.length < 16 then none else some (numOf (l.take 8), numOf ((l.drop 8).take 8), 0, (l.drop 8).drop 8)
def tkRaw3 (l : List UInt8) : Option (Nat × Nat × Nat × List UInt8) := if l.length < 16 then none else some (numOf (l.take 8), 0, numOf ((l.drop 8).take 8), (l.drop 8).drop 8)
def tkRawK (k : Nat) (l : List UInt8) : Option (Nat × Nat × Nat × List UInt8) :=
  if k = 0 then tkRaw0 l else if k = 1 then tkRaw1 l else if k = 2 then tkRaw2 l else if k = 3 then tkRaw3 l else none
def tkRaw : List UInt8 → Option (Nat × Nat × Nat × Nat × List UInt8)
  | [] => none
  | k :: l => (tkRawK k.toNat l).map fun v => (k.toNat, v)
theorem tkRaw_cons (k : UInt8) (l : List UInt8) : tkRaw (k :: l) = (tkRawK k.toNat l).map fun v => (k.toNat, v) := rfl
def tkGet (b : List UInt8) : Option (Nat × Nat × Nat × Nat × List UInt8) :=
  match tkRaw b with
  | none => none
  | some (k, x, y, z, d) => if tkRight (k : Int) y z d.length then some (k, x, y, z, d) else none
def tkGetE (b : List UInt8) : Int := if (tkGet b).isSome then 0 else 130
theorem tkRight_kind {k : Int} {y z n : Nat} (h : tkRight k y z n = true) : k = 0 ∨ k = 1 ∨ k = 2 ∨ k = 3 := by
  unfold tkRight at h
  split at h
  · omega
  · split at h
    · omega
    · split at h
      · omega
      · split at h
        · omega
        · cases h
theorem tkRight_len {k : Int} {y z n : Nat} (h : tkRight k y z n = true) : n ≤ 64 := by
  unfold tkRight at h
  split at h
  · have := of_decide_eq_true h; omega
  · split at h
    · have := of_decide_eq_true h; omega
    · split at h
      · have := of_decide_eq_true h; omega
      · split at h
        · have := of_decide_eq_true h; omega
        · cases h
theorem take_put (x : Nat) (l : List UInt8) : (putB x 8 ++ l).take 8 = putB x 8 := by
  have h := putB_length x 8
  rw [List.take_append_of_le_length (by omega), List.take_of_length_le (by omega)]
theorem drop_put (x : Nat) (l : List UInt8) : (putB x 8 ++ l).drop 8 = l := by
  have h := putB_length x 8
  rw [List.drop_append_of_le_length (by omega), List.drop_of_length_le (by omega), List.nil_append]
theorem num_put (x : Nat) (h : x < 18446744073709551616) : numOf (putB x 8) = x := by rw [numOf_putB, Nat.mod_eq_of_lt (by omega)]
/-- what was put is got -/
theorem tkGet_put (k : Int) (x y z : Nat) (d : List UInt8) (hx : x < 18446744073709551616) (hy : y < 18446744073709551616) (hz : z < 18446744073709551616) (h : tkRight k y z d.length = true) :
    tkPut k x y z d = tkBytes k x y z d ∧ tkGet (tkPut k x y z d) = some (k.toNat, x, y, z, d) ∧ (tkPut k x y z d).length ≤ 100 := by
  have e : tkPut k x y z d = tkBytes k x y z d := by unfold tkPut; rw [if_pos h]
  have hd := tkRight_len h
  have h' := h
  refine ⟨e, ?_⟩
  rw [e]
  unfold tkRight at h'
  rcases tkRight_kind h with rfl | rfl | rfl | rfl
  · have := of_decide_eq_true h'
    obtain ⟨rfl, rfl, h0⟩ := this
    obtain rfl : d = [] := List.eq_nil_of_length_eq_zero h0
    have hb : tkBytes 0 x 0 0 [] = 0 :: (putB x 8 ++ []) := rfl
    rw [hb]
    refine ⟨?_, by simp [putB_length]⟩
    unfold tkGet
    rw [tkRaw_cons, show tkRawK (0 : UInt8).toNat (putB x 8 ++ []) = tkRaw0 (putB x 8 ++ []) from rfl]
    unfold tkRaw0
    rw [if_neg (by simp [putB_length]), take_put, drop_put, num_put x hx]
    rfl
  · have h0 : d.length = 0 := of_decide_eq_true h'
    obtain rfl : d = [] := List.eq_nil_of_length_eq_zero h0
    have hb : tkBytes 1 x y z [] = 1 :: (putB x 8 ++ (putB y 8 ++ (putB z 8 ++ []))) := rfl
    rw [hb]
    refine ⟨?_, by simp [putB_length]⟩
    unfold tkGet
    rw [tkRaw_cons, show tkRawK (1 : UInt8).toNat (putB x 8 ++ (putB y 8 ++ (putB z 8 ++ []))) = tkRaw1 (putB x 8 ++ (putB y 8 ++ (putB z 8 ++ []))) from rfl]
    unfold tkRaw1
    rw [if_neg (by simp [putB_length]), take_put, drop_put, take_put, drop_put, take_put, drop_put, num_put x hx, num_put y hy, num_put z hz]
    rfl
  · have := of_decide_eq_true h'
    obtain ⟨rfl, hl⟩ := this
    have hb : tkBytes 2 x y 0 d = 2 :: (putB x 8 ++ (putB y 8 ++ d)) := rfl
    rw [hb]
    refine ⟨?_, by simp [putB_length]; omega⟩
    unfold tkGet
    rw [tkRaw_cons, show tkRawK (2 : UInt8).toNat (putB x 8 ++ (putB y 8 ++ d)) = tkRaw2 (putB x 8 ++ (putB y 8 ++ d)) from rfl]
    unfold tkRaw2
    rw [if_neg (by simp [putB_length]; omega), take_put, drop_put, take_put, drop_put, num_put x hx, num_put y hy]
    show (if tkRight 2 y 0 d.length = true then _ else _) = _
    rw [if_pos h]
    rfl
  · have := of_decide_eq_true h'
    obtain ⟨rfl, h0⟩ := this
    obtain rfl : d = [] := List.eq_nil_of_length_eq_zero h0
    have hb : tkBytes 3 x 0 z [] = 3 :: (putB x 8 ++ (putB z 8 ++ [])) := rfl
    rw [hb]
    refine ⟨?_, by simp [putB_length]⟩
    unfold tkGet
    rw [tkRaw_cons, show tkRawK (3 : UInt8).toNat (putB x 8 ++ (putB z 8 ++ [])) = tkRaw3 (putB x 8 ++ (putB z 8 ++ [])) from rfl]
    unfold tkRaw3
    rw [if_neg (by simp [putB_length]), take_put, drop_put, take_put, drop_put, num_put x hx, num_put z hz]
    rfl
theorem put_take (l : List UInt8) (h : 8 ≤ l.length) : putB (numOf (l.take 8)) 8 = l.take 8 := by
  have := putB_numOf (l.take 8)
  rwa [List.length_take, Nat.min_eq_left h] at this
theorem num_take_lt (l : List UInt8) : numOf (l.take 8) < 18446744073709551616 := by
  have h := numOf_bound (l.take 8)
  have h2 : (l.take 8).length ≤ 8 := by simp; omega
  have h3 : (256 : Nat) ^ (l.take 8).length ≤ 256 ^ 8 := Nat.pow_le_pow_right (by decide) h2
  omega
/-- .. and what was got is put -/
theorem tkPut_get (b : List UInt8) (k x y z : Nat) (d : List UInt8) (h : tkGet b = some (k, x, y, z, d)) : tkRight (k : Int) y z d.length = true ∧ tkPut (k : Int) x y z d = b ∧ x < 18446744073709551616 ∧ y < 18446744073709551616 ∧ z < 18446744073709551616 := by
  unfold tkGet at h
  match hr : tkRaw b with
  | none => rw [hr] at h; cases h
  | some (k', x', y', z', d') =>
    rw [hr] at h
    simp only at h
    split at h
    · rename_i he
      injection h with h
      injection h with h1 h
      injection h with h2 h
      injection h with h3 h
      injection h with h4 h5
      subst h1; subst h2; subst h3; subst h4; subst h5
      refine ⟨he, ?_⟩
      unfold tkPut
      rw [if_pos he]
      match b, hr with
      | [], hr => cases hr
      | c :: l, hr =>
        rw [tkRaw_cons] at hr
        have hkind := tkRight_kind he
        match hk : tkRawK c.toNat l with
        | none => rw [hk] at hr; cases hr
        | some v =>
          rw [hk] at hr
          simp only [Option.map_some] at hr
          injection hr with hr
          injection hr with e1 e2
          subst e1
          subst e2
          have hc : ∀ j : Nat, j < 256 → c.toNat = j → c = UInt8.ofNat j := fun j hj e => UInt8.toNat_inj.1 (by rw [e, UInt8.toNat_ofNat', Nat.mod_eq_of_lt hj])
          have hc4 : c.toNat = 0 ∨ c.toNat = 1 ∨ c.toNat = 2 ∨ c.toNat = 3 := by omega
          unfold tkRawK at hk
          rcases hc4 with e | e | e | e
          · rw [if_pos e] at hk
            unfold tkRaw0 at hk
            split at hk
            · cases hk
            · injection hk with hk
              injection hk with k1 hk
              injection hk with k2 hk
              injection hk with k3 k4
              subst k1; subst k2; subst k3; subst k4
              refine ⟨?_, num_take_lt _, by decide, by decide⟩
              rw [e]
              show UInt8.ofNat 0 :: (putB (numOf (l.take 8)) 8 ++ l.drop 8) = _
              rw [put_take l (by omega), List.take_append_drop, ← hc 0 (by decide) e]
          · rw [if_neg (by omega), if_pos e] at hk
            unfold tkRaw1 at hk
            split at hk
            · cases hk
            · injection hk with hk
              injection hk with k1 hk
              injection hk with k2 hk
              injection hk with k3 k4
              subst k1; subst k2; subst k3; subst k4
              refine ⟨?_, num_take_lt _, num_take_lt _, num_take_lt _⟩
              rw [e]
              show UInt8.ofNat 1 :: (putB (numOf (l.take 8)) 8 ++ (putB (numOf ((l.drop 8).take 8)) 8 ++ (putB (numOf (((l.drop 8).drop 8).take 8)) 8 ++ ((l.drop 8).drop 8).drop 8))) = _
              rw [put_take l (by omega), put_take (l.drop 8) (by simp; omega), put_take ((l.drop 8).drop 8) (by simp; omega), List.take_append_drop, List.take_append_drop, List.take_append_drop, ← hc 1 (by decide) e]
          · rw [if_neg (by omega), if_neg (by omega), if_pos e] at hk
            unfold tkRaw2 at hk
            split at hk
            · cases hk
            · injection hk with hk
              injection hk with k1 hk
              injection hk with k2 hk
              injection hk with k3 k4
              subst k1; subst k2; subst k3; subst k4
              refine ⟨?_, num_take_lt _, num_take_lt _, by decide⟩
              rw [e]
              show UInt8.ofNat 2 :: (putB (numOf (l.take 8)) 8 ++ (putB (numOf ((l.drop 8).take 8)) 8 ++ (l.drop 8).drop 8)) = _
              rw [put_take l (by omega), put_take (l.drop 8) (by simp; omega), List.take_append_drop, List.take_append_drop, ← hc 2 (by decide) e]
          · rw [if_neg (by omega), if_neg (by omega), if_neg (by omega), if_pos e] at hk
            unfold tkRaw3 at hk
            split at hk
            · cases hk
            · injection hk with hk
              injection hk with k1 hk
              injection hk with k2 hk
              injection hk with k3 k4
              subst k1; subst k2; subst k3; subst k4
              refine ⟨?_, num_take_lt _, by decide, num_take_lt _⟩
              rw [e]
              show UInt8.ofNat 3 :: (putB (numOf (l.take 8)) 8 ++ (putB (numOf ((l.drop 8).take 8)) 8 ++ (l.drop 8).drop 8)) = _
              rw [put_take l (by omega), put_take (l.drop 8) (by simp; omega), List.take_append_drop, List.take_append_drop, ← hc 3 (by decide) e]
    · cases h
end Go.Proofs.YtabackggnkplhaaDoor
