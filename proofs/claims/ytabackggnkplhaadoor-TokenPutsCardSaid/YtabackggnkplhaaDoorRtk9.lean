/- What kedgeref15.Get answers of any bytes; Same. -/
import Derived.Test.YtabackggnkplhaaDoorRtk4
import Derived.Test.YtabackggnkplhaaDoorRtk5
import Derived.Test.YtabackggnkplhaaDoorRtk6
import Derived.Test.YtabackggnkplhaaDoorRtk7
import Derived.Test.YtabackggnkplhaaDoorRtk8
import Derived.Test.YtabackggnkplhaaDoorSame
namespace Go.Proofs.YtabackggnkplhaaDoor
open Go.RowKit
set_option maxRecDepth 20000

/-- what Get answers, the zero packet where there is none -/
def tkV (b : List UInt8) : Nat × Nat × Nat × Nat × List UInt8 := (tkGet b).getD tkZero
theorem tkV_some {b : List UInt8} {v : Nat × Nat × Nat × Nat × List UInt8} (h : tkGet b = some v) : tkV b = v := by unfold tkV; rw [h]; rfl
theorem tkGet_raw {b : List UInt8} {k x y z : Nat} {d : List UInt8} (h : tkRaw b = some (k, x, y, z, d)) : tkV b = (if tkRight (k : Int) y z d.length then (k, x, y, z, d) else tkZero) ∧ tkGetE b = (if tkRight (k : Int) y z d.length then 0 else 130) := by
  have e : tkGet b = if tkRight (k : Int) y z d.length then some (k, x, y, z, d) else none := by unfold tkGet; rw [h]
  unfold tkV tkGetE
  rw [e]
  cases tkRight (k : Int) y z d.length <;> exact ⟨rfl, rfl⟩
theorem tkGet_bad {b : List UInt8} (h : tkRaw b = none) : tkV b = tkZero ∧ tkGetE b = 130 := by
  have e : tkGet b = none := by unfold tkGet; rw [h]
  unfold tkV tkGetE
  rw [e]
  exact ⟨rfl, rfl⟩
theorem rtkget_any (A : Option Addr) (n c : Nat) (b : List UInt8) (w : World) (hB : Bys w A n c b) (hn : n ≤ 140737488355328) :
    Calls Tryd.prog 12 #[.slice A n c] w (GivesTk w (tkV b) (tkGetE b)) := by
  have hl := hB.len
  match b, hB, hl with
  | [], _, hl =>
    obtain ⟨e1, e2⟩ := tkGet_bad (b := []) rfl
    rw [e1, e2]
    exact rtkget_short A n c w (by simp at hl; omega)
  | k :: l, hB, hl =>
    simp at hl
    have hk : ∀ j : Nat, j < 256 → k.toNat = j → k = UInt8.ofNat j := fun j hj e => UInt8.toNat_inj.1 (by rw [e, UInt8.toNat_ofNat', Nat.mod_eq_of_lt hj])
    by_cases h9 : n < 9
    · have hb : tkRaw (k :: l) = none := by
        rw [tkRaw_cons]
        have : tkRawK k.toNat l = none := by
          unfold tkRawK tkRaw0 tkRaw1 tkRaw2 tkRaw3
          repeat' split
          all_goals first | rfl | omega
        rw [this]
        rfl
      obtain ⟨e1, e2⟩ := tkGet_bad hb
      rw [e1, e2]
      exact rtkget_short A n c w h9
    · by_cases h3 : 3 < k.toNat
      · have hb : tkRaw (k :: l) = none := by
          rw [tkRaw_cons]
          have : tkRawK k.toNat l = none := by
            unfold tkRawK
            rw [if_neg (by omega), if_neg (by omega), if_neg (by omega), if_neg (by omega)]
          rw [this]
          rfl
        obtain ⟨e1, e2⟩ := tkGet_bad hb
        rw [e1, e2]
        exact rtkget_head A n c k l w hB (by omega) h3
      · have h4 : k.toNat = 0 ∨ k.toNat = 1 ∨ k.toNat = 2 ∨ k.toNat = 3 := by omega
        rcases h4 with e | e | e | e
        · obtain rfl := hk 0 (by decide) e
          have hb : tkRaw (UInt8.ofNat 0 :: l) = some (0, numOf (l.take 8), 0, 0, l.drop 8) := by
            rw [tkRaw_cons, show tkRawK (UInt8.ofNat 0).toNat l = tkRaw0 l from rfl]
            unfold tkRaw0
            rw [if_neg (by omega)]
            rfl
          obtain ⟨e1, e2⟩ := tkGet_raw hb
          rw [e1, e2]
          by_cases hm : n = 9
          · exact rtkget_0e A n c l w hB hn hm _ rfl
          · exact rtkget_0m A n c l w hB hn (by omega) _ rfl
        · obtain rfl := hk 1 (by decide) e
          by_cases h24 : l.length < 24
          · have hb : tkRaw (UInt8.ofNat 1 :: l) = none := by
              rw [tkRaw_cons, show tkRawK (UInt8.ofNat 1).toNat l = tkRaw1 l from rfl]
              unfold tkRaw1
              rw [if_pos h24]
              rfl
            obtain ⟨e1, e2⟩ := tkGet_bad hb
            rw [e1, e2]
            by_cases h17 : n < 17
            · exact rtkget_few1 A n c l w hB (by omega) h17
            · exact rtkget_few1b A n c l w hB (by omega) (by omega)
          · have hb : tkRaw (UInt8.ofNat 1 :: l) = some (1, numOf (l.take 8), numOf ((l.drop 8).take 8), numOf (((l.drop 8).drop 8).take 8), ((l.drop 8).drop 8).drop 8) := by
              rw [tkRaw_cons, show tkRawK (UInt8.ofNat 1).toNat l = tkRaw1 l from rfl]
              unfold tkRaw1
              rw [if_neg h24]
              rfl
            obtain ⟨e1, e2⟩ := tkGet_raw hb
            rw [e1, e2]
            by_cases hm : n = 25
            · exact rtkget_1e A n c l w hB hn hm _ rfl
            · exact rtkget_1m A n c l w hB hn (by omega) _ rfl
        · obtain rfl := hk 2 (by decide) e
          by_cases h16 : l.length < 16
          · have hb : tkRaw (UInt8.ofNat 2 :: l) = none := by
              rw [tkRaw_cons, show tkRawK (UInt8.ofNat 2).toNat l = tkRaw2 l from rfl]
              unfold tkRaw2
              rw [if_pos h16]
              rfl
            obtain ⟨e1, e2⟩ := tkGet_bad hb
            rw [e1, e2]
            exact rtkget_few2 A n c l w hB (by omega) (by omega)
          · have hb : tkRaw (UInt8.ofNat 2 :: l) = some (2, numOf (l.take 8), numOf ((l.drop 8).take 8), 0, (l.drop 8).drop 8) := by
              rw [tkRaw_cons, show tkRawK (UInt8.ofNat 2).toNat l = tkRaw2 l from rfl]
              unfold tkRaw2
              rw [if_neg h16]
              rfl
            obtain ⟨e1, e2⟩ := tkGet_raw hb
            rw [e1, e2]
            by_cases hm : n = 17
            · exact rtkget_2e A n c l w hB hn hm _ rfl
            · exact rtkget_2m A n c l w hB hn (by omega) _ rfl
        · obtain rfl := hk 3 (by decide) e
          by_cases h16 : l.length < 16
          · have hb : tkRaw (UInt8.ofNat 3 :: l) = none := by
              rw [tkRaw_cons, show tkRawK (UInt8.ofNat 3).toNat l = tkRaw3 l from rfl]
              unfold tkRaw3
              rw [if_pos h16]
              rfl
            obtain ⟨e1, e2⟩ := tkGet_bad hb
            rw [e1, e2]
            exact rtkget_few3 A n c l w hB (by omega) (by omega)
          · have hb : tkRaw (UInt8.ofNat 3 :: l) = some (3, numOf (l.take 8), 0, numOf ((l.drop 8).take 8), (l.drop 8).drop 8) := by
              rw [tkRaw_cons, show tkRawK (UInt8.ofNat 3).toNat l = tkRaw3 l from rfl]
              unfold tkRaw3
              rw [if_neg h16]
              rfl
            obtain ⟨e1, e2⟩ := tkGet_raw hb
            rw [e1, e2]
            by_cases hm : n = 17
            · exact rtkget_3e A n c l w hB hn hm _ rfl
            · exact rtkget_3m A n c l w hB hn (by omega) _ rfl
/-- whether two packets are the same -/
def tkSame (k : Int) (x y z : Nat) (d : List UInt8) (k' : Int) (x' y' z' : Nat) (d' : List UInt8) : Bool := decide (k = k' ∧ x = x' ∧ y = y' ∧ z = z' ∧ d = d')
theorem tkSame_self (k : Int) (x y z : Nat) (d : List UInt8) : tkSame k x y z d k x y z d = true := by simp [tkSame]
set_option maxHeartbeats 4000000 in
theorem rtksame_any (k : Int) (x y z : Nat) (A : Option Addr) (n c : Nat) (d : List UInt8) (k' : Int) (x' y' z' : Nat) (A' : Option Addr) (n' c' : Nat) (d' : List UInt8) (w : World) (hB : Bys w A n c d) (hB' : Bys w A' n' c' d') :
    Calls Tryd.prog 13 #[.agg #[.int .i64 k, .int .u64 (x : Int), .int .u64 (y : Int), .int .u64 (z : Int), .slice A n c], .agg #[.int .i64 k', .int .u64 (x' : Int), .int .u64 (y' : Int), .int .u64 (z' : Int), .slice A' n' c']] w fun e w' => e = .returned (.bool (tkSame k x y z d k' x' y' z' d')) ∧ Below w.heap.size w w' := by
  have T0 : Below w.heap.size w ((w.alloc (.cells #[.int .i64 k, .int .u64 (x : Int), .int .u64 (y : Int), .int .u64 (z : Int), .slice A n c] 25)).alloc (.cells #[.int .i64 k', .int .u64 (x' : Int), .int .u64 (y' : Int), .int .u64 (z' : Int), .slice A' n' c'] 25)) := ((Below.refl _ w).alloc (Nat.le_refl _) _).alloc (by simp) _
  by_cases h0 : k = k'
  · subst h0
    have e0 : (k == k) = true := by simp
    by_cases h1 : x = x'
    · subst h1
      have e1 : ((x : Int) == (x : Int)) = true := by simp
      by_cases h2 : y = y'
      · subst h2
        have e2 : ((y : Int) == (y : Int)) = true := by simp
        by_cases h3 : z = z'
        · subst h3
          have e3 : ((z : Int) == (z : Int)) = true := by simp
          have HS := Lib.hid (fun W (h : Below w.heap.size w W) => same_any A A' n c n' c' d d' W (hB.below h) (hB'.below h))
          have hr : tkSame k x y z d k x y z d' = sameB d d' := by unfold tkSame sameB; simp
          rw [hr]
          have HT := Lib.hid T0
          clear hB hB' hr T0
          go_enter Tryd.func13, Tryd.ntmps13
          go_wp2_with (fail)
          refine (HS.out _ HT.out).mono ?_
          rintro e w1 ⟨rfl, q, rfl⟩
          go_wp2
          go_ret
          exact ⟨rfl, below_drewN' HT.out _⟩
        · have e3 : ((z : Int) == (z' : Int)) = false := by simp; omega
          have hr : tkSame k x y z d k x y z' d' = false := by unfold tkSame; simp [h3]
          rw [hr]
          clear hB hB' hr
          go_enter Tryd.func13, Tryd.ntmps13
          go_wp2
          go_ret
          exact ⟨rfl, T0⟩
      · have e2 : ((y : Int) == (y' : Int)) = false := by simp; omega
        have hr : tkSame k x y z d k x y' z' d' = false := by unfold tkSame; simp [h2]
        rw [hr]
        clear hB hB' hr
        go_enter Tryd.func13, Tryd.ntmps13
        go_wp2
        go_ret
        exact ⟨rfl, T0⟩
    · have e1 : ((x : Int) == (x' : Int)) = false := by simp; omega
      have hr : tkSame k x y z d k x' y' z' d' = false := by unfold tkSame; simp [h1]
      rw [hr]
      clear hB hB' hr
      go_enter Tryd.func13, Tryd.ntmps13
      go_wp2
      go_ret
      exact ⟨rfl, T0⟩
  · have e0 : (k == k') = false := by simp; omega
    have hr : tkSame k x y z d k' x' y' z' d' = false := by unfold tkSame; simp [h0]
    rw [hr]
    clear hB hB' hr
    go_enter Tryd.func13, Tryd.ntmps13
    go_wp2
    go_ret
    exact ⟨rfl, T0⟩
end Go.Proofs.YtabackggnkplhaaDoor
