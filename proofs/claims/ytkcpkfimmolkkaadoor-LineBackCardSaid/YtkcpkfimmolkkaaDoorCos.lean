/- Joined: CorrC FlC Co1 CorrL Laws08 Laws08b Laws08c Co2 Co3 Co4 Co5. -/
import Derived.Test.YtkcpkfimmolkkaaDoorPhCs
import Derived.Test.YtkcpkfimmolkkaaDoorRcors
import Derived.Test.YtkcpkfimmolkkaaDoorFl
import Derived.Test.YtkcpkfimmolkkaaDoorFacts
import Derived.Test.YtkcpkfimmolkkaaDoorPhs
import Derived.WalkLawsBesides
import Derived.Deep.QuietTactic
import Derived.BigQuiet
/- Package corr by its contracts (phase's beside it); what the law's own small and live answer over them. -/
namespace Go.Proofs.YtkcpkfimmolkkaaDoor
open Go.RowKit
set_option maxRecDepth 20000

/-- A call's end that tells a float which is this whole number. -/
def GivesX (w : World) (n : Int) (e : Ending) (w' : World) : Prop := ∃ a, e = .returned (.float .f64 a) ∧ Fl a n ∧ Below w.heap.size w w'
/-- what package corr answers, in plain words -/
structure CoC : Prop where
  find : ∀ (A : Option Addr) (n c : Nat) (l : List Pt) (B : Option Addr) (m d : Nat) (r : List Pt) (w : World), Cs w A n c l → Cs w B m d r → (∀ p ∈ l, Near p) → (∀ p ∈ r, Near p) → n ≤ 400 → m ≤ 400 → Calls Tryd.prog 39 #[.slice A n c, .slice B m d] w (GivesFd w l r)
  sliced : ∀ (A : Option Addr) (n c : Nat) (l : List Pt) (w : World), Cs w A n c l → n ≤ 400 → Calls Tryd.prog 38 #[.slice A n c] w (GivesC w (slicedB l))

/-- small's end -/
def SmallN (w : World) (n : Nat) (l : List Pt) (e : Ending) (w' : World) : Prop := ∃ r, e = .returned (.bool r) ∧ (r = true → n ≤ 400 ∧ ∀ p ∈ l, Near p) ∧ w = w'
end Go.Proofs.YtkcpkfimmolkkaaDoor

/- Plain facts on complex numbers whose parts are small whole numbers: sums, differences, products, the second part turned about. Nothing of the program is in here. -/
namespace Go.Proofs.YtkcpkfimmolkkaaDoor

theorem fl_cmul {a b c d : Nat} {p q : Pt} (ha : Fl a p.1) (hb : Fl b p.2) (hc : Fl c q.1) (hd : Fl d q.2) (hp : -1000000 ≤ p.1 ∧ p.1 ≤ 1000000 ∧ -1000000 ≤ p.2 ∧ p.2 ≤ 1000000) (hq : -1000000 ≤ q.1 ∧ q.1 ≤ 1000000 ∧ -1000000 ≤ q.2 ∧ q.2 ≤ 1000000) :
    ∃ x y, cMulBits a b c d = some (x, y) ∧ Fl x (p.1 * q.1 - p.2 * q.2) ∧ Fl y (p.1 * q.2 + p.2 * q.1) := by
  have key : ∀ {m n : Int}, -1000000 ≤ m → m ≤ 1000000 → -1000000 ≤ n → n ≤ 1000000 → (m * n).natAbs ≤ 1000000000000 := fun {m n} h1 h2 h3 h4 => by
    rw [Int.natAbs_mul]
    exact Nat.le_trans (Nat.mul_le_mul (show m.natAbs ≤ 1000000 by omega) (show n.natAbs ≤ 1000000 by omega)) (by decide)
  have k1 := key hp.1 hp.2.1 hq.1 hq.2.1
  have k2 := key hp.2.2.1 hp.2.2.2 hq.2.2.1 hq.2.2.2
  have k3 := key hp.1 hp.2.1 hq.2.2.1 hq.2.2.2
  have k4 := key hp.2.2.1 hp.2.2.2 hq.1 hq.2.1
  obtain ⟨ac, e1, f1⟩ := fl_mul ha hc (by omega)
  obtain ⟨bd, e2, f2⟩ := fl_mul hb hd (by omega)
  obtain ⟨x, e3, f3⟩ := fl_sub f1 f2 (by omega)
  obtain ⟨ad, e4, f4⟩ := fl_mul ha hd (by omega)
  obtain ⟨bc, e5, f5⟩ := fl_mul hb hc (by omega)
  obtain ⟨y, e6, f6⟩ := fl_add f4 f5 (by omega)
  exact ⟨x, y, by simp [cMulBits, e1, e2, e3, e4, e5, e6], f3, f6⟩
theorem fl_cadd {a b c d : Nat} {p q : Pt} (ha : Fl a p.1) (hb : Fl b p.2) (hc : Fl c q.1) (hd : Fl d q.2) (h1 : (p.1 + q.1).natAbs < 9007199254740992) (h2 : (p.2 + q.2).natAbs < 9007199254740992) :
    ∃ x y, cSumBits .add .f64 a b c d = some (x, y) ∧ Fl x (p.1 + q.1) ∧ Fl y (p.2 + q.2) := by
  obtain ⟨x, e1, f1⟩ := fl_add ha hc h1
  obtain ⟨y, e2, f2⟩ := fl_add hb hd h2
  exact ⟨x, y, by simp [cSumBits, e1, e2], f1, f2⟩
/-- '-x' of a float -/
theorem fl_neg {a : Nat} {n : Int} (ha : Fl a n) : ∃ r, floatBits .sub .f64 0 a = some r ∧ Fl r (-n) := by
  have h := ha.small
  obtain ⟨r, e, f⟩ := fl_sub fl_zero ha (by omega)
  rw [Int.zero_sub] at f
  exact ⟨r, e, f⟩
theorem flip_low (b : Nat) : (b ^^^ 9223372036854775808) % 9223372036854775808 = b % 9223372036854775808 := by
  have h := Nat.xor_mod_two_pow (a := b) (b := 9223372036854775808) (n := 63)
  rw [show (2 : Nat) ^ 63 = 9223372036854775808 by decide +kernel, Nat.mod_self, Nat.xor_zero] at h
  exact h
theorem flip_high (b : Nat) : ((b ^^^ 9223372036854775808) / 9223372036854775808 % 2 == 1) = !(b / 9223372036854775808 % 2 == 1) := by
  have h := Nat.xor_div_two_pow (a := b) (b := 9223372036854775808) (n := 63)
  rw [show (2 : Nat) ^ 63 = 9223372036854775808 by decide +kernel, Nat.div_self (by decide)] at h
  rw [h]
  generalize b / 9223372036854775808 = x
  have h2 := Nat.xor_mod_two_pow (a := x) (b := 1) (n := 1)
  rw [Nat.pow_one] at h2
  rw [h2]
  have h3 : x % 2 = 0 ∨ x % 2 = 1 := by omega
  rcases h3 with h3 | h3 <;> rw [h3] <;> decide
theorem read_flip (b m : Nat) (s : Bool) (e : Int) (h : Ieee.double.read b = .number s m e) : Ieee.double.read (b ^^^ 9223372036854775808) = .number (!s) m e := by
  unfold Ieee.Format.read at h ⊢
  rw [double_sw] at h ⊢
  dsimp only at h ⊢
  rw [flip_low, flip_high]
  generalize (b / 9223372036854775808 % 2 == 1) = S at *
  generalize b % 9223372036854775808 = M at *
  by_cases h1 : M < Ieee.double.binade
  · rw [if_pos h1] at h ⊢
    simp only [Ieee.Datum.number.injEq] at h ⊢
    exact ⟨by rw [h.1], h.2.1, h.2.2⟩
  · rw [if_neg h1] at h ⊢
    by_cases h2 : M < Ieee.double.infRung
    · rw [if_pos h2] at h ⊢
      simp only [Ieee.Datum.number.injEq] at h ⊢
      exact ⟨by rw [h.1], h.2.1, h.2.2⟩
    · rw [if_neg h2] at h
      split at h <;> cases h
/-- '-x' of a float, as the machine does it: the sign turned -/
theorem fl_flip {a : Nat} {n : Int} (ha : Fl a n) : Fl (Op.negFloat .f64 a) (-n) := by
  obtain ⟨h, s, k, e1, s1, s2⟩ := ha
  refine ⟨by omega, !s, k, ?_, fun hn => by rw [s2 (by omega)]; rfl, fun hn => by rw [s1 (by omega)]; rfl⟩
  rw [Int.natAbs_neg]
  exact read_flip a _ s _ e1
end Go.Proofs.YtkcpkfimmolkkaaDoor

/- Package corr: Dot, Size, Sliced, places. -/
namespace Go.Proofs.YtkcpkfimmolkkaaDoor
open Go.RowKit
set_option maxRecDepth 20000

theorem cvs_zero (n : Nat) : Cvs (List.replicate n (.complex .f64 0 0)) (List.replicate n ((0, 0) : Pt)) :=
  ⟨by simp, fun j h h' => ⟨0, 0, by simp, by simp only [List.getElem_replicate]; exact fl_zero, by simp only [List.getElem_replicate]; exact fl_zero⟩⟩
theorem OwnC.made {w : World} {B : Nat} {v : Value} {n : Nat} (h : w.ownsRow B 54 1 v n (List.replicate n (.complex .f64 0 0))) : OwnC w B v (List.replicate n ((0, 0) : Pt)) :=
  ⟨_, by rw [List.length_replicate]; exact h, cvs_zero n⟩
theorem sliced_step (l : List Pt) (j : Nat) (h : j < l.length) :
    slicedB (l.take (j + 1)) ++ List.replicate (l.length - (j + 1)) ((0, 0) : Pt) = (slicedB (l.take j) ++ List.replicate (l.length - j) ((0, 0) : Pt)).set j (sliceP l[j]) := by
  have hl : (slicedB (l.take j)).length = j := by unfold slicedB; simp; omega
  rw [List.set_append_right _ _ (by omega), hl, Nat.sub_self, show l.length - j = (l.length - (j + 1)) + 1 by omega, List.replicate_succ, List.set_cons_zero, List.take_succ_eq_append_getElem h]
  unfold slicedB
  rw [List.map_append, List.append_assoc]
  rfl
set_option maxHeartbeats 4000000 in
theorem sliced_big (A : Option Addr) (n c : Nat) (l : List Pt) (w : World) (hP : Cs w A n c l) (hn : n ≤ 100000) :
    Calls Tryd.prog 38 #[.slice A n c] w (GivesC w (slicedB l)) := by
  obtain rfl := hP.len
  have hcm := hP.cap
  have HC := Lib.hid (fun j => hP.at_ j)
  have hz := Nat.le_refl w.heap.size
  obtain ⟨i0, hi, hz0, hz1, hz2⟩ := info_parts Tryd.infoC
  clear hP
  go_enter Tryd.func38, Tryd.ntmps38
  go_wp2_with (at_make; refine wpList_make_full _ rfl _ _ 24 rfl w.heap.size 54 i0 (.complex .f64 0 0) 1 Tryd.underlying24 hi hz0 hz1 .i64 .i64 _ _ l.length rfl rfl rfl rfl (by rw [hz2]; omega) (by unfold maxLen; omega) hz ?_; intro w2 hown hgrow; have HON := Lib.hid (And.intro hown hgrow); clear hown hgrow)
  go_loopw [11] (fun i wr => ∃ j : Nat, j ≤ l.length ∧ i = .int .i64 (j : Int) ∧ OwnC wr w.heap.size (.slice (some ⟨w.heap.size, 0, none⟩) l.length l.length) (slicedB (l.take j) ++ List.replicate (l.length - j) ((0, 0) : Pt)) ∧ Below w.heap.size w wr) (fun i _ => l.length - (intOf i).toNat)
  case atStart => exact ⟨0, Nat.zero_le _, rfl, OwnC.made (by have := HON.out.1; rw [show (Value.complex .f64 0 0).cells = #[Value.complex .f64 0 0] from rfl, toList_madeCells_one, Nat.mul_one] at this; exact this), (Below.refl _ _).grown HON.out.2 hz (by simp)⟩
  case round =>
    obtain ⟨j, hj, rfl, hown, hbel⟩ := hrel
    by_cases hlt : j < l.length
    · have d : decide ((j : Int) < (l.length : Int)) = true := by simp; omega
      obtain ⟨g, o, x, y, rfl, hg, hk', hc, hx, hy⟩ := HC.out j hlt
      have hc := (hbel.cell (p := ⟨g, o + j, none⟩) hg).trans hc
      have hst := sliced_step l j hlt
      have hTM := slice_any x y l[j] wr hx hy
      have hcl : (slicedB (l.take j) ++ List.replicate (l.length - j) ((0, 0) : Pt)).length = l.length := by unfold slicedB; simp; omega
      clear hx hy
      generalize sliceP l[j] = q at *
      generalize slicedB (l.take j) ++ List.replicate (l.length - j) ((0, 0) : Pt) = cur at *
      have HTM := Lib.hid hTM
      have HST := Lib.hid hst
      have HON := Lib.hid hown
      clear hTM hst hown
      go_wp2_with (fail)
      refine HTM.out.mono ?_
      rintro e w2 ⟨c1, d1, rfl, f1, f2, T2⟩
      have hon2 := HON.out.below T2
      obtain ⟨x2, y2, hc2, hf2, -, -⟩ := hon2.cell j (by omega)
      have HS := Lib.hid (hon2.stored j f1 f2)
      have s1 := fun (W : World) (m : Mode) => run_store Tryd.prog W ⟨w.heap.size, j, none⟩ (.complex .f64 c1 d1) m rfl
      have T2 := nxt hbel T2
      clear f1 f2 hon2
      go_wp2
      go_roundw
      case rel =>
        refine ⟨j + 1, by omega, by go_num, ?_, ?_⟩
        · rw [HST.out]
          exact HS.out.1
        · exact T2.setCell (Nat.le_refl _) _
      case measure => simp [intOf]; omega
    · obtain rfl : j = l.length := by omega
      have d : decide ((l.length : Int) < (l.length : Int)) = false := by simp
      rw [List.take_length, Nat.sub_self, List.replicate_zero, List.append_nil] at hown
      have HON := Lib.hid hown
      clear hown
      go_wp2
      go_ret
      exact ⟨_, rfl, HON.out, hbel⟩
/-- how many places there are -/
def placesN (n m : Nat) : Nat := if m = 0 then 0 else n + 1 - m
theorem places_any (A : Option Addr) (n c : Nat) (B : Option Addr) (m d : Nat) (w : World) (hn : n ≤ 1000000) (hm : m ≤ 1000000) :
    Calls Tryd.prog 69 #[.slice A n c, .slice B m d] w fun e w' => e = .returned (.int .i64 (placesN n m : Nat)) ∧ w = w' := by
  by_cases h0 : m = 0
  · subst h0
    have HF : Hid (placesN n 0 = 0) := rfl
    go_enter Tryd.func69, Tryd.ntmps69
    go_wp2
    go_ret
    exact ⟨by rw [HF.out]; rfl, rfl⟩
  · have d0 : ((m : Int) == 0) = false := by simp; omega
    have HF : Hid (placesN n m = n + 1 - m) := by show placesN n m = n + 1 - m; unfold placesN; rw [if_neg h0]
    go_enter Tryd.func69, Tryd.ntmps69
    go_wp2
    · go_ret
      exact ⟨by rw [HF.out, show ((n + 1 - m : Nat) : Int) = n - m + 1 by omega]; rfl, rfl⟩
    · go_ret
      exact ⟨by rw [HF.out, show n + 1 - m = 0 by omega]; rfl, rfl⟩
end Go.Proofs.YtkcpkfimmolkkaaDoor

/- What layer 8's law's own live answers over the contracts of phase and corr. -/
namespace Go.Proofs.YtkcpkfimmolkkaaDoor
open Go.RowKit
set_option maxRecDepth 20000

theorem near_mid {p : Pt} (h : Near p) : Mid p := by unfold Near at h; unfold Mid; omega
/-- Of's call, as a place of its own: the slice and what it reads as -/
theorem of_at (C : PhC) (A : Option Addr) (n c : Nat) (l : List Pt) (w : World) (hP : Ps w A n c l) (hn : n ≤ 1000000) (hM : ∀ p ∈ l, Near p) :
    Calls Tryd.prog 16 #[.slice A n c] w fun e w' => ∃ A' c', e = .returned (.slice A' n c') ∧ Cs w' A' n c' l ∧ Below w.heap.size w w' := by
  refine (lof_any C A n c l w hP hn (fun p hp => near_mid (hM p hp))).mono ?_
  rintro e w' ⟨v, rfl, hown, T⟩
  obtain ⟨A', c', hv, hcs⟩ := hown.shape
  rw [hP.len] at hv hcs
  exact ⟨A', c', by rw [hv], hcs, T⟩
theorem live_find : FindR [(5, 0), (1, 1), (1, -1)] [(-1, 1), (1, 1)] 1 3 true :=
  .inl ⟨rfl, by decide, by decide, by decide, by unfold St; decide +kernel, by unfold St; decide +kernel, by unfold St; decide +kernel⟩
theorem live_dot : dotP [(1, 1)] [(1, 1)] = (2, 0) := by decide +kernel
end Go.Proofs.YtkcpkfimmolkkaaDoor

/- The walks of layer 8's statements, over the contracts of phase and corr: each law answers true and leaves what was there as it was. -/
namespace Go.Proofs.YtkcpkfimmolkkaaDoor
open Go.RowKit
set_option maxRecDepth 20000

theorem near_turn {l : List Pt} (k : Int) (h : ∀ p ∈ l, Near p) : ∀ p ∈ turnB l k, Near p := by
  intro p hp
  obtain ⟨q, hq, rfl⟩ := List.mem_map.1 hp
  exact rotN_small (B := 100) (rest4 k) (h q hq)
theorem turnB_len (l : List Pt) (k : Int) : (turnB l k).length = l.length := by simp [turnB]
end Go.Proofs.YtkcpkfimmolkkaaDoor

/- The walk of layer 8's CorrDots, over the contracts of phase and corr. -/
namespace Go.Proofs.YtkcpkfimmolkkaaDoor
open Go.RowKit
set_option maxRecDepth 20000

theorem size_small {p : Pt} (h : -50000000 ≤ p.1 ∧ p.1 ≤ 50000000 ∧ -50000000 ≤ p.2 ∧ p.2 ≤ 50000000) : (sizeI p).natAbs < 9007199254740992 := by
  have m1 := mul_bound (B := 50000000) (by decide) h.1 h.2.1 h.1 h.2.1
  have m2 := mul_bound (B := 50000000) (by decide) h.2.2.1 h.2.2.2 h.2.2.1 h.2.2.2
  unfold sizeI
  omega
theorem mid_sliced {l : List Pt} : ∀ p ∈ slicedB l, Mid p := by
  intro p hp
  obtain ⟨q, _, rfl⟩ := List.mem_map.1 hp
  exact near_mid (sliceP_uni q).near
theorem slicedB_len (l : List Pt) : (slicedB l).length = l.length := by simp [slicedB]
end Go.Proofs.YtkcpkfimmolkkaaDoor

/- The walk of layer 8's CorrPeaks, over the contracts of phase and corr. -/
namespace Go.Proofs.YtkcpkfimmolkkaaDoor
open Go.RowKit
set_option maxRecDepth 20000

/-- what the peak says of the place where the mark is found, among points of the four kinds -/
theorem peak_fits {u v : List Pt} (hu : ∀ p ∈ u, Uni p) (hv : ∀ p ∈ v, Uni p) {a t p : Nat} {ok : Bool} (hf : FindR u v a t ok) (hp : PeakR u v p true) :
    fitI u v p ≤ 4 * ((v.length : Int) * v.length) ∧ decide (fitI u v p = 4 * ((v.length : Int) * v.length)) = ok ∧ (ok = true → a = p) ∧ p + v.length ≤ u.length ∧ a ≤ u.length ∧ 0 < v.length := by
  obtain ⟨h1, h2, h3, h4, h5⟩ | ⟨h1, -⟩ := hp
  · have key : ∀ b, b + v.length ≤ u.length → fitI u v b ≤ 4 * ((v.length : Int) * v.length) ∧ (fitI u v b = 4 * ((v.length : Int) * v.length) ↔ ∃ t : Nat, t < 4 ∧ St u v b t) := fun b hb =>
      fit_uni (u.drop b) v (fun q hq => hu q (List.mem_of_mem_drop hq)) hv (by simp; omega)
    obtain ⟨k1, k2⟩ := key p h3
    rcases hf with ⟨rfl, p1, q1, r1, s1, m1, n1⟩ | ⟨rfl, rfl, rfl, z1⟩
    · have ka := (key a q1).2.2 ⟨t, r1, s1⟩
      have hge := h4 a q1
      have hpe : fitI u v p = 4 * ((v.length : Int) * v.length) := by omega
      refine ⟨k1, decide_eq_true hpe, fun _ => ?_, h3, by omega, h2⟩
      rcases Nat.lt_trichotomy a p with h | h | h
      · have := h5 a h; omega
      · exact h
      · obtain ⟨t', ht', hs'⟩ := k2.1 hpe
        exact absurd hs' (n1 p h t' ht')
    · refine ⟨k1, decide_eq_false fun hpe => ?_, fun h => absurd h (by decide), h3, by omega, h2⟩
      obtain ⟨t', ht', hs'⟩ := k2.1 hpe
      rcases z1 with z1 | z1
      · omega
      · exact z1 p h3 t' ht' hs'
  · cases h1
theorem peak_none {u v : List Pt} {a t p : Nat} {ok : Bool} (hf : FindR u v a t ok) (hp : PeakR u v p false) : ok = false := by
  obtain ⟨h1, -⟩ | ⟨-, -, h3⟩ := hp
  · cases h1
  · rcases hf with ⟨rfl, p1, q1, r1, s1, m1, n1⟩ | ⟨rfl, -⟩
    · omega
    · rfl
theorem fl_four : Fl 4616189618054758400 4 := ⟨by decide, false, 50, by decide +kernel, fun h => absurd h (by decide), fun _ => rfl⟩
theorem fl_gt {a b : Nat} {m n : Int} (ha : Fl a m) (hb : Fl b n) : (FloatKind.f64.format.order a b == some .gt) = decide (n < m) := by
  show (Ieee.double.order a b == some .gt) = _
  rw [fl_order ha hb]
  rcases Int.lt_trichotomy m n with h | h | h
  · rw [Int.compare_eq_lt.2 h, decide_eq_false (by omega)]; rfl
  · rw [Int.compare_eq_eq.2 h, decide_eq_false (by omega)]; rfl
  · rw [Int.compare_eq_gt.2 h, decide_eq_true (by omega)]; rfl
theorem Cs.drop {w : World} {b o n c : Nat} {l : List Pt} (h : Cs w (some ⟨b, o, none⟩) n c l) (k : Nat) (hk : k ≤ n) : Cs w (some ⟨b, o + k, none⟩) (n - k) (c - k) (l.drop k) := by
  obtain ⟨h1, h2, h3, h4⟩ := h
  refine ⟨by simp; omega, by omega, by unfold maxLen at *; omega, fun hn => ?_⟩
  obtain ⟨b', o', vs, e, hb, hv, hc⟩ := h4 (by omega)
  cases e
  have hvl := hv.1
  refine ⟨b, o + k, vs.drop k, rfl, hb, ⟨by simp; omega, fun j hj hj' => ?_⟩, fun j hj => ?_⟩
  · simp at hj hj'
    obtain ⟨x, y, e1, e2, e3⟩ := hv.2 (k + j) (by omega) (by omega)
    exact ⟨x, y, by rw [List.getElem_drop]; exact e1, by rw [List.getElem_drop]; exact e2, by rw [List.getElem_drop]; exact e3⟩
  · simp at hj
    rw [List.getElem_drop, show o + k + j = o + (k + j) by omega]
    exact hc (k + j) (by omega)
theorem uni_sliced {l : List Pt} : ∀ p ∈ slicedB l, Uni p := by
  intro p hp
  obtain ⟨q, _, rfl⟩ := List.mem_map.1 hp
  exact sliceP_uni q
end Go.Proofs.YtkcpkfimmolkkaaDoor

/- Package corr: Peak. -/
namespace Go.Proofs.YtkcpkfimmolkkaaDoor
open Go.RowKit
set_option maxRecDepth 20000

/-- best and most, so far -/
def PkS (l mark : List Pt) (k : Nat) (bz : Nat) (sz : Int) : Prop :=
  (k = 0 ∧ bz = 0 ∧ sz = -1) ∨ (bz < k ∧ sz = fitI l mark bz ∧ (∀ a, a < k → fitI l mark a ≤ fitI l mark bz) ∧ ∀ a, a < bz → fitI l mark a < fitI l mark bz)
theorem sizeI_nonneg (p : Pt) : 0 ≤ sizeI p := by
  have e : ∀ n : Int, 0 ≤ n * n := fun n => by
    rcases Int.le_total 0 n with h | h
    · exact Int.mul_nonneg h h
    · exact Int.mul_nonneg_of_nonpos_of_nonpos h h
  have := e p.1
  have := e p.2
  unfold sizeI
  omega
theorem PkS.more {l mark : List Pt} {k bz : Nat} {sz : Int} (h : PkS l mark k bz sz) (hl : sz < fitI l mark k) : PkS l mark (k + 1) k (fitI l mark k) := by
  refine .inr ⟨by omega, rfl, fun a ha => ?_, fun a ha => ?_⟩
  · rcases h with ⟨rfl, -, -⟩ | ⟨h1, h2, h3, h4⟩
    · rw [show a = 0 by omega]; exact Int.le_refl _
    · by_cases hk : a < k
      · have := h3 a hk; omega
      · rw [show a = k by omega]; exact Int.le_refl _
  · rcases h with ⟨rfl, -, -⟩ | ⟨h1, h2, h3, h4⟩
    · omega
    · have := h3 a ha; omega
theorem PkS.same {l mark : List Pt} {k bz : Nat} {sz : Int} (h : PkS l mark k bz sz) (hl : ¬ sz < fitI l mark k) : PkS l mark (k + 1) bz sz := by
  rcases h with ⟨rfl, h2, h3⟩ | ⟨h1, h2, h3, h4⟩
  · have : 0 ≤ fitI l mark 0 := sizeI_nonneg _
    omega
  · refine .inr ⟨by omega, h2, fun a ha => ?_, h4⟩
    by_cases hk : a < k
    · exact h3 a hk
    · rw [show a = k by omega]; omega
theorem placesN_zero {n m : Nat} (h : placesN n m = 0) : m = 0 ∨ n < m := by
  unfold placesN at h
  split at h <;> omega
theorem placesN_pos {n m : Nat} (h : placesN n m ≠ 0) : 0 < m ∧ placesN n m + m = n + 1 := by
  unfold placesN at h ⊢
  split at h
  · omega
  · rename_i h0
    rw [if_neg h0]
    omega
end Go.Proofs.YtkcpkfimmolkkaaDoor

/- Package corr: what is seen from each side; two rows held against each other. -/
namespace Go.Proofs.YtkcpkfimmolkkaaDoor
open Go.RowKit
set_option maxRecDepth 20000

/-- up to the j-th point it stands -/
def Ag (l mk : List Pt) (k j : Nat) : Prop := (l.drop k).take j = mk.take j
theorem Ag.zero (l mk : List Pt) (k : Nat) : Ag l mk k 0 := rfl
theorem Ag.more {l mk : List Pt} {k j : Nat} (h : Ag l mk k j) (h1 : k + j < l.length) (h2 : j < mk.length) (he : l[k + j] = mk[j]) : Ag l mk k (j + 1) := by
  unfold Ag at h ⊢
  rw [List.take_succ_eq_append_getElem (by simp; omega), List.take_succ_eq_append_getElem h2, h, List.getElem_drop, he]
theorem Ag.never {l mark : List Pt} {k j t : Nat} (h1 : k + j < l.length) (h2 : j < (turnB mark t).length) (he : ¬ l[k + j] = (turnB mark t)[j]) : ¬ St l mark k t := by
  intro hs
  unfold St at hs
  have hj : j < mark.length := by rw [turnB_len] at h2; exact h2
  apply he
  have e := List.getElem_of_eq hs (i := j) (by simp; omega)
  rw [List.getElem_take, List.getElem_drop] at e
  exact e
theorem Ag.all {l mark : List Pt} {k t : Nat} (h : Ag l (turnB mark t) k mark.length) : St l mark k t := by
  unfold Ag at h
  unfold St
  rw [h, List.take_of_length_le (by rw [turnB_len]; exact Nat.le_refl _)]
theorem pt_cmp {x y : Bool} {p q : Pt} (h1 : x = decide (p.1 = q.1)) (h2 : y = decide (p.2 = q.2)) : (((!x) = true ∨ (!y) = true) → ¬ p = q) ∧ (((!x) = false ∧ (!y) = false) → p = q) := by
  subst h1 h2
  obtain ⟨a, b⟩ := p
  obtain ⟨c, d⟩ := q
  simp only [Prod.mk.injEq]
  constructor <;> intro h <;> simp at h ⊢ <;> omega

theorem Cs.off {X : Nat → Prop} {w w' : World} {A : Option Addr} {n c : Nat} {l : List Pt} (h : Cs w A n c l) (hA : Av X n A) (o : Off X w w') : Cs w' A n c l :=
  ⟨h.1, h.2.1, h.2.2.1, fun hn => by
    obtain ⟨b, of, vs, e, hb, hv, hc⟩ := h.2.2.2 hn
    exact ⟨b, of, vs, e, by have := o.size; omega, hv, fun j hj => (o.cell (p := ⟨b, of + j, none⟩) hb (hA hn ⟨b, of, none⟩ e)).trans (hc j hj)⟩⟩
theorem OwnC.fr {w : World} {B : Nat} {n c : Nat} {A : Option Addr} {l : List Pt} (h : OwnC w B (.slice A n c) l) : Av (· < B) n A := by
  obtain ⟨vs, h1, _⟩ := h
  exact own_fr h1
/-- the first k of the cells hold the mark as it looks from that many sides -/
def Looks (w : World) (g k : Nat) (mark : List Pt) (cs : Array Value) : Prop :=
  cs.size = 4 ∧ ∀ j, j < k → ∃ A c, cs[j]? = some (.slice A mark.length c) ∧ Cs w A mark.length c (turnB mark (j : Int)) ∧ Av (· ≤ g) mark.length A
theorem Looks.zero {w : World} {g : Nat} {mark : List Pt} {cs : Array Value} (h : cs.size = 4) : Looks w g 0 mark cs := ⟨h, fun j hj => absurd hj (by omega)⟩
theorem Looks.below {w w' : World} {g k : Nat} {mark : List Pt} {cs : Array Value} (h : Looks w g k mark cs) (o : Below w.heap.size w w') : Looks w' g k mark cs :=
  ⟨h.1, fun j hj => by
    obtain ⟨A, c, h1, h2, h3⟩ := h.2 j hj
    exact ⟨A, c, h1, h2.below o, h3⟩⟩
theorem Looks.put {w : World} {g k : Nat} {mark : List Pt} {cs : Array Value} (h : Looks w g k mark cs) (hk : k < 4) {A : Option Addr} {c : Nat} (hC : Cs w A mark.length c (turnB mark (k : Int))) (hA : Av (· ≤ g) mark.length A) :
    Looks (w.setCell ⟨g, k, none⟩ (.slice A mark.length c)) g (k + 1) mark (cs.setIfInBounds k (.slice A mark.length c)) := by
  have o : Off (· = g) w (w.setCell ⟨g, k, none⟩ (.slice A mark.length c)) := (Off.refl _ w).one k _
  refine ⟨by simpa using h.1, fun j hj => ?_⟩
  have h4 := h.1
  by_cases e : j = k
  · subst e
    refine ⟨A, c, ?_, hC.off (hA.imp (fun i hi => by omega)) o, hA⟩
    rw [Array.getElem?_setIfInBounds_self_of_lt (by omega)]
  · obtain ⟨A', c', h1, h2, h3⟩ := h.2 j (by omega)
    refine ⟨A', c', ?_, h2.off (h3.imp (fun i hi => by omega)) o, h3⟩
    rw [Array.getElem?_setIfInBounds_ne (fun h => e h.symm)]
    exact h1
theorem Looks.one {w : World} {g : Nat} {mark : List Pt} {cs : Array Value} (h : Looks w g 4 mark cs) : cs.all (·.oneCell') = true := by
  rw [Array.all_eq_true_iff_forall_mem]
  intro v hv
  obtain ⟨j, hj, rfl⟩ := Array.mem_iff_getElem.1 hv
  obtain ⟨A, c, h1, _⟩ := h.2 j (by have := h.1; omega)
  rw [Array.getElem?_eq_getElem hj] at h1
  injection h1 with h1
  rw [h1]
  rfl
theorem Looks.off {w w' : World} {g s k : Nat} {mark : List Pt} {cs : Array Value} (h : Looks w g k mark cs) (hs : s ≤ g) (o : Off (· = s) w w') : Looks w' s k mark cs :=
  ⟨h.1, fun j hj => by
    obtain ⟨A, c, h1, h2, h3⟩ := h.2 j hj
    exact ⟨A, c, h1, h2.off (h3.imp (fun i hi => by omega)) o, h3.imp (fun i hi => by omega)⟩⟩
/-- fromEachSide's end -/
def GivesLk (w : World) (mark : List Pt) (e : Ending) (w' : World) : Prop := ∃ cs, e = .returned (.agg cs) ∧ Looks w' w.heap.size 4 mark cs ∧ Below w.heap.size w w'
set_option maxHeartbeats 4000000 in
theorem sides_any (hT : ∀ (A : Option Addr) (n c : Nat) (l : List Pt) (k : Int) (w : World), Cs w A n c l → n ≤ 1000000 → (∀ p ∈ l, Mid p) → -9223372036854775808 ≤ k ∧ k ≤ 9223372036854775807 → Calls Tryd.prog 19 #[.slice A n c, .int .i64 k] w (GivesC w (turnB l k)))
    (B : Option Addr) (m d : Nat) (mark : List Pt) (w : World) (hQ : Cs w B m d mark) (hr : ∀ p ∈ mark, Near p) (hm : m ≤ 400) :
    Calls Tryd.prog 68 #[.slice B m d] w (GivesLk w mark) := by
  have hl2 := hQ.len
  have HT : Hid (∀ (t : Nat) W, Below w.heap.size w W → t < 4 → Calls Tryd.prog 19 #[.slice B m d, .int .i64 (t : Int)] W (GivesC W (turnB mark t))) := fun t W kk ht =>
    hT _ _ _ _ _ W (hQ.below kk) (by omega) (fun p hp => by have := hr p hp; unfold Near at this; unfold Mid; omega) (by omega)
  subst hl2
  clear hQ hr hT
  go_enter Tryd.func68, Tryd.ntmps68
  go_wp2_with (fail)
  go_loopw [5] (fun i wr => ∃ (k : Nat) (cs : Array Value), k ≤ 4 ∧ i = .int .i64 (k : Int) ∧ wr.heap[w.heap.size + 1]? = some (.cells cs 92 (0, 0)) ∧ wr.heap[w.heap.size]? = some (.cells #[.slice none 0 0, .slice none 0 0, .slice none 0 0, .slice none 0 0] 92 (0, 0)) ∧ Hid (Looks wr (w.heap.size + 1) k mark cs) ∧ Below w.heap.size w wr) (fun i _ => 4 - (intOf i).toNat)
  case atStart => exact ⟨0, _, by decide, rfl, heap_alloc2_new w _ _, (((Below.refl _ _).alloc (Nat.le_refl _) _).block _ (by simp)).trans (heap_alloc_new w _), Looks.zero rfl, ((Below.refl _ _).alloc (Nat.le_refl _) _).alloc (by simp) _⟩
  case round =>
    obtain ⟨k, cs, hk, rfl, hh, hz, HL, hbel⟩ := hrel
    have hgs := lt_of_block hh
    by_cases h4 : k < 4
    · have d1 : decide ((k : Int) < 4) = true := by simp; omega
      have i1 : (k : Int) < 4 := by omega
      have HTk := Lib.hid (HT.out k _ hbel h4)
      go_wp2_with (fail)
      refine HTk.out.mono ?_
      rintro e w2 ⟨v, rfl, hown, T2⟩
      have hfr := hown
      obtain ⟨A2, c2, rfl, hC2⟩ := hown.shape
      have hfr := hfr.fr
      rw [turnB_len] at hC2 hfr ⊢
      have hh2 := (T2.block _ hgs).trans hh
      have hz2 := (T2.block _ (by omega)).trans hz
      have hL2 := HL.out.below T2
      have hsz := hL2.1
      have HP := Lib.hid (hL2.put h4 hC2 (hfr.imp (fun i hi => by omega)))
      have T2 := nxt hbel T2
      obtain ⟨u, hu⟩ : ∃ u, cs[k]? = some u := ⟨cs[k]'(by omega), by simp⟩
      have hc := (cell_of_row w2 (w.heap.size + 1) k cs _ _ hh2).trans hu
      have hf := frozen_of_row w2 (w.heap.size + 1) k cs _ hh2
      have s1 := fun (W : World) (m : Mode) => run_store Tryd.prog W ⟨w.heap.size + 1, k, none⟩ (.slice A2 mark.length c2) m rfl
      have HH := Lib.hid (heap_setCell_same w2 (w.heap.size + 1) k cs _ (.slice A2 mark.length c2) hh2)
      have HZ := Lib.hid ((heap_setCell_other w2 ⟨w.heap.size + 1, k, none⟩ w.heap.size (.slice A2 mark.length c2) (by simp)).trans hz2)
      clear hfr hC2 hL2 hh2 hz2 hh hz HL hu
      go_wp2
      go_roundw
      case rel => exact ⟨k + 1, _, by omega, by go_num, HH.out, HZ.out, HP.out, T2.setCell (by simp) _⟩
      case measure => simp [intOf]; omega
    · obtain rfl : k = 4 := by omega
      have d1 : decide (((4 : Nat) : Int) < 4) = false := by decide
      have hsz := HL.out.1
      have hinf : (Tryd.prog.info? 92).map (·.size) = some cs.size := by rw [hsz]; kernel_rfl
      have hone := HL.out.one
      have HH := Lib.hid (setRow_heap wr w.heap.size _ cs _ _ hz)
      have HE : Hid (GivesLk w mark (.returned (.agg cs)) (wr.setRow w.heap.size cs)) := by
        refine ⟨cs, rfl, HL.out.off (by omega) ⟨rfl, rfl, rfl, by simp, fun k _ hk => setRow_other wr w.heap.size k cs hk⟩, ⟨hbel.os, hbel.tape, hbel.output, ?_, fun k hk => (setRow_other wr w.heap.size k cs (by omega)).trans (hbel.block k hk)⟩⟩
        rw [setRow_size]
        exact hbel.size
      clear hbel HL
      go_wp2_with (first | (refine wpList_load_row rfl 92 _ rfl (w.heap.size + 1) rfl 92 cs (0, 0) _ hh Tryd.underlying92 rfl hinf ?_) | (refine wpList_store_row rfl 92 _ _ rfl w.heap.size cs rfl rfl 92 _ hz hinf ?_ hone ?_; (rw [hsz]; rfl)))
      refine bodyPost_ret (v := .agg cs) (results_cell_row rfl _ _ w.heap.size 92 cs (0, 0) _ rfl HH.out Tryd.underlying92 rfl hinf) rfl ?_
      exact HE.out
end Go.Proofs.YtkcpkfimmolkkaaDoor

/- Package corr: two rows of points held against each other. -/
namespace Go.Proofs.YtkcpkfimmolkkaaDoor
open Go.RowKit
set_option maxRecDepth 20000

theorem take_more {l r : List Pt} {j : Nat} (h : l.take j = r.take j) (h1 : j < l.length) (h2 : j < r.length) (he : l[j] = r[j]) : l.take (j + 1) = r.take (j + 1) := by
  rw [List.take_succ_eq_append_getElem h1, List.take_succ_eq_append_getElem h2, h, he]
theorem take_never {l r : List Pt} {j : Nat} (h1 : j < l.length) (h2 : j < r.length) (he : ¬ l[j] = r[j]) : ¬ l = r := fun h => he (by subst h; rfl)
/-- a truth, told -/
def GivesT8 (w : World) (b : Prop) (e : Ending) (w' : World) : Prop := ∃ x : Bool, e = .returned (.bool x) ∧ (x = true ↔ b) ∧ Below w.heap.size w w'
set_option maxHeartbeats 4000000 in
theorem eqc_any (A : Option Addr) (n c : Nat) (l : List Pt) (B : Option Addr) (m d : Nat) (r : List Pt) (w : World) (hP : Cs w A n c l) (hQ : Cs w B m d r) :
    Calls Tryd.prog 70 #[.slice A n c, .slice B m d] w (GivesT8 w (l = r)) := by
  obtain rfl := hP.len
  obtain rfl := hQ.len
  have hnc := hP.le
  have hcm := hP.cap
  have hmd := hQ.le
  have hdm := hQ.cap
  by_cases hne : l.length = r.length
  · have e0 : ((l.length : Int) != (r.length : Int)) = false := by simp [hne]
    have HC := Lib.hid (fun j => hP.at_ j)
    have HD := Lib.hid (fun j => hQ.at_ j)
    have HNE := Lib.hid hne
    have hle1 : l.length ≤ r.length := by omega
    clear hP hQ hne
    go_enter Tryd.func70, Tryd.ntmps70
    go_wp2_with (fail)
    go_loopw [13] (fun i wr => ∃ j : Nat, i = .int .i64 (j : Int) ∧ j ≤ l.length ∧ Hid (l.take j = r.take j) ∧ Below w.heap.size w wr) (fun i _ => l.length - (intOf i).toNat)
    case atStart => exact ⟨0, rfl, Nat.zero_le _, rfl, Below.refl _ _⟩
    case round =>
      obtain ⟨j, rfl, hj, HA, hbel⟩ := hrel
      by_cases h3 : j < l.length
      · have d3 : decide ((j : Int) < (l.length : Int)) = true := by simp; omega
        have i1 : (j : Int) < (l.length : Int) := by omega
        have i2 : (j : Int) < (r.length : Int) := by omega
        obtain ⟨g1, o1, a1, b1, rfl, hg1, hk1, hc1, hx1, hy1⟩ := HC.out j h3
        obtain ⟨g2, o2, a2, b2, rfl, hg2, hk2, hc2, hx2, hy2⟩ := HD.out j (by omega)
        have q1 := (hbel.cell (p := ⟨g1, o1 + j, none⟩) hg1).trans hc1
        have q2 := (hbel.cell (p := ⟨g2, o2 + j, none⟩) hg2).trans hc2
        have e1 := fl_eq hx1 hx2
        have e2 := fl_eq hy1 hy2
        have HX := Lib.hid (And.intro e1 e2)
        clear hx1 hy1 hx2 hy2 e1 e2 hc1 hc2
        go_wp2_with (fail)
        go_quiet (fail)
        go_wp2
        · have he := (pt_cmp HX.out.1 HX.out.2).1 (by assumption)
          have HF := Lib.hid (take_never hk1 hk2 he)
          go_ret
          exact ⟨false, rfl, ⟨fun h => (by cases h), fun h => absurd h HF.out⟩, by first | exact hbel | exact hbel.drew | exact below_drewN' hbel _⟩
        · have he := (pt_cmp HX.out.1 HX.out.2).2 (by assumption)
          have HA2 := Lib.hid (take_more HA.out hk1 hk2 he)
          go_roundw
          case rel => exact ⟨j + 1, by go_num, by omega, HA2.out, by first | exact hbel | exact hbel.drew | exact below_drewN' hbel _⟩
          case measure => simp [intOf]; omega
      · obtain rfl : j = l.length := by omega
        have d3 : decide ((l.length : Int) < (l.length : Int)) = false := by simp
        have HF : Hid (l = r) := by
          have h := HA.out
          rw [List.take_length, HNE.out, List.take_length] at h
          exact h
        go_wp2
        go_ret
        exact ⟨true, rfl, ⟨fun _ => HF.out, fun _ => rfl⟩, hbel⟩
  · have e0 : ((l.length : Int) != (r.length : Int)) = true := by simp; omega
    have HNE : Hid (¬ l = r) := fun h => hne (by rw [h])
    clear hP hQ
    go_enter Tryd.func70, Tryd.ntmps70
    go_wp2
    go_ret
    exact ⟨false, rfl, ⟨fun h => (by cases h), fun h => absurd h HNE.out⟩, Below.refl _ _⟩
end Go.Proofs.YtkcpkfimmolkkaaDoor

/- Package corr: Find. -/
namespace Go.Proofs.YtkcpkfimmolkkaaDoor
open Go.RowKit
set_option maxRecDepth 20000

theorem Cs.take {w : World} {A : Option Addr} {n c : Nat} {l : List Pt} (h : Cs w A n c l) (m : Nat) (hm : m ≤ n) : Cs w A m c (l.take m) := by
  obtain ⟨h1, h2, h3, h4⟩ := h
  refine ⟨by simp; omega, by omega, h3, fun hn => ?_⟩
  obtain ⟨b, o, vs, e, hb, hv, hc⟩ := h4 (by omega)
  have hvl := hv.1
  refine ⟨b, o, vs.take m, e, hb, ⟨by simp; omega, fun j hj hj' => ?_⟩, fun j hj => ?_⟩
  · simp at hj hj'
    obtain ⟨x, y, e1, e2, e3⟩ := hv.2 j (by omega) (by omega)
    exact ⟨x, y, by rw [List.getElem_take]; exact e1, by rw [List.getElem_take]; exact e2, by rw [List.getElem_take]; exact e3⟩
  · simp at hj
    rw [List.getElem_take]
    exact hc j (by omega)
theorem index_four (v0 v1 v2 v3 : Value) (W : World) : (Instr.index 92 (.agg #[v0, v1, v2, v3]) (.int .i64 0)).run Tryd.prog W = .ok v0 W ∧ (Instr.index 92 (.agg #[v0, v1, v2, v3]) (.int .i64 1)).run Tryd.prog W = .ok v1 W ∧ (Instr.index 92 (.agg #[v0, v1, v2, v3]) (.int .i64 2)).run Tryd.prog W = .ok v2 W ∧ (Instr.index 92 (.agg #[v0, v1, v2, v3]) (.int .i64 3)).run Tryd.prog W = .ok v3 W :=
  ⟨by kernel_rfl, by kernel_rfl, by kernel_rfl, by kernel_rfl⟩
theorem index_look (cs : Array Value) (h : cs.size = 4) (k : Nat) (v : Value) (hk : k < 4) (hv : cs[k]? = some v) (W : World) : (Instr.index 92 (.agg cs) (.int .i64 (k : Int))).run Tryd.prog W = .ok v W := by
  obtain ⟨vs⟩ := cs
  match vs, h with
  | [v0, v1, v2, v3], _ =>
    obtain ⟨i0, i1, i2, i3⟩ := index_four v0 v1 v2 v3 W
    have h4 : k = 0 ∨ k = 1 ∨ k = 2 ∨ k = 3 := by omega
    rcases h4 with rfl | rfl | rfl | rfl
    · have : v0 = v := by simpa using hv
      rw [← this]; exact i0
    · have : v1 = v := by simpa using hv
      rw [← this]; exact i1
    · have : v2 = v := by simpa using hv
      rw [← this]; exact i2
    · have : v3 = v := by simpa using hv
      rw [← this]; exact i3
set_option maxHeartbeats 4000000 in
theorem find_big (hT : ∀ (A : Option Addr) (n c : Nat) (l : List Pt) (k : Int) (w : World), Cs w A n c l → n ≤ 1000000 → (∀ p ∈ l, Mid p) → -9223372036854775808 ≤ k ∧ k ≤ 9223372036854775807 → Calls Tryd.prog 19 #[.slice A n c, .int .i64 k] w (GivesC w (turnB l k)))
    (A : Option Addr) (n c : Nat) (l : List Pt) (B : Option Addr) (m d : Nat) (mark : List Pt) (w : World) (hP : Cs w A n c l) (hQ : Cs w B m d mark) (hr : ∀ p ∈ mark, Near p) (hn : n ≤ 100000) (hm : m ≤ 400) :
    Calls Tryd.prog 39 #[.slice A n c, .slice B m d] w (GivesFd w l mark) := by
  have hl1 := hP.len
  have hl2 := hQ.len
  have hnc := hP.le
  have hcm := hP.cap
  have hmd := hQ.le
  have hdm := hQ.cap
  have HSD := Lib.hid (sides_any hT B m d mark w hQ hr hm)
  have HPL := Lib.hid (fun W => places_any A n c B m d W (by omega) (by omega))
  have HP1 : Hid (m = 0 ∨ ∀ b, b + m ≤ n → b < placesN n m) := by
    by_cases h0 : placesN n m = 0
    · rcases placesN_zero h0 with h | h
      · exact .inl h
      · exact .inr (fun b hb => absurd hb (by omega))
    · have := placesN_pos h0
      exact .inr (fun b hb => by omega)
  have HP2 : Hid (∀ k, k < placesN n m → 0 < m ∧ k + m ≤ n) := fun k hk => by
    have := placesN_pos (n := n) (m := m) (by omega)
    omega
  have hpl : placesN n m ≤ 100001 := by unfold placesN; split <;> omega
  generalize placesN n m = P at *
  have HC := Lib.hid (fun j => hP.at_ j)
  have HEQ : Hid (∀ (g o k : Nat) (A2 : Option Addr) (c2 : Nat) (r : List Pt) (W : World), A = some ⟨g, o, none⟩ → k + m ≤ n → Below w.heap.size w W → Cs W A2 m c2 r → Calls Tryd.prog 70 #[.slice (some ⟨g, o + k, none⟩) m (c - k), .slice A2 m c2] W (GivesT8 W ((l.drop k).take m = r))) := fun g o k A2 c2 r W hA hk kk hC => by
    subst hA
    exact eqc_any _ _ _ _ _ _ _ _ W (((hP.below kk).drop k (by omega)).take m (by omega)) hC
  subst hl1 hl2
  clear hP hQ hr hT
  go_enter Tryd.func39, Tryd.ntmps39
  go_wp2_with (fail)
  go_step3
  go_wp2_with (fail)
  refine HSD.out.mono ?_
  rintro e w1 ⟨cs, rfl, hL, T1⟩
  have hsz := hL.1
  have hinf : (Tryd.prog.info? 92).map (·.size) = some cs.size := by rw [hsz]; kernel_rfl
  have hone := hL.one
  have HL := Lib.hid hL
  clear hL
  go_wp2_with (refine wpList_store_row rfl 92 _ _ rfl w1.heap.size cs rfl rfl 92 _ (heap_alloc_new w1 _) hinf ?_ hone ?_; (rw [hsz]; rfl))
  have hh := setRow_heap (w1.alloc (.cells #[.slice none 0 0, .slice none 0 0, .slice none 0 0, .slice none 0 0] 92)) w1.heap.size _ cs _ _ (heap_alloc_new w1 _)
  have T2 : Below w1.heap.size w1 ((w1.alloc (.cells #[.slice none 0 0, .slice none 0 0, .slice none 0 0, .slice none 0 0] 92)).setRow w1.heap.size cs) := by
    have T := (Below.refl w1.heap.size w1).alloc (Nat.le_refl _) (.cells #[.slice none 0 0, .slice none 0 0, .slice none 0 0, .slice none 0 0] 92)
    exact ⟨T.os, T.tape, T.output, by rw [setRow_size]; exact T.size, fun k hk => (setRow_other _ _ _ _ (by omega)).trans (T.block k hk)⟩
  have HL2 := Lib.hid (HL.out.below T2)
  have T2 := nxt T1 T2
  have hgs := lt_of_block hh
  generalize (w1.alloc (.cells #[.slice none 0 0, .slice none 0 0, .slice none 0 0, .slice none 0 0] 92)).setRow w1.heap.size cs = w2 at *
  clear HL
  go_step3
  go_wp2_with (fail)
  refine (HPL.out _).mono ?_
  rintro e w3 ⟨rfl, rfl⟩
  go_wp2_with (fail)
  go_loopw [4, 5, 6, 17] (fun r1 r2 r3 i wr => ∃ k : Nat, i = .int .i64 (k : Int) ∧ r1 = .int .i64 0 ∧ r2 = .int .i64 0 ∧ r3 = .bool false ∧ k ≤ P ∧ Hid (∀ b, b < k → ∀ u, u < 4 → ¬ St l mark b u) ∧ Below w2.heap.size w2 wr) (fun _ _ _ i _ => P - (intOf i).toNat)
  case atStart => exact ⟨0, rfl, rfl, rfl, rfl, by omega, fun b hb => absurd hb (by omega), Below.refl _ _⟩
  case round =>
    obtain ⟨k, rfl, rfl, rfl, rfl, hk, HN, hbel⟩ := hrel
    by_cases h1 : k < P
    · have d1 : decide ((k : Int) < (P : Int)) = true := by simp; omega
      obtain ⟨hm0, hkm⟩ := HP2.out k h1
      obtain ⟨g, o, -, -, rfl, hg, -⟩ := HC.out k (by omega)
      have hhr := (hbel.block _ hgs).trans hh
      have i1 : (k : Int) ≤ (k : Int) + (mark.length : Int) := by omega
      have i2 : (k : Int) + (mark.length : Int) ≤ (c : Int) := by omega
      have i3 : (k : Int) + (mark.length : Int) ≤ (l.length : Int) := by omega
      go_wp2_with (refine wpList_load_row rfl 92 _ rfl w1.heap.size rfl 92 cs (0, 0) _ hhr Tryd.underlying92 rfl hinf ?_)
      go_loopw [4, 5, 6, 28] (fun r1 r2 r3 i wr2 => ∃ t : Nat, i = .int .i64 (t : Int) ∧ r1 = .int .i64 0 ∧ r2 = .int .i64 0 ∧ r3 = .bool false ∧ t ≤ 4 ∧ Hid (∀ u, u < t → ¬ St l mark k u) ∧ Below w2.heap.size w2 wr2) (fun _ _ _ i _ => 4 - (intOf i).toNat)
      case atStart => exact ⟨0, rfl, rfl, rfl, rfl, by decide, fun b hb => absurd hb (by omega), hbel⟩
      case round =>
        obtain ⟨t, rfl, rfl, rfl, rfl, ht, HM, hbel2⟩ := hrel
        by_cases h2 : t < 4
        · have d2 : decide ((t : Int) < 4) = true := by simp; omega
          obtain ⟨A2, c2, hcs, hC2, -⟩ := (HL2.out.below hbel2).2 t h2
          have ii := index_look cs hsz t _ h2 hcs
          have HE := Lib.hid (fun W (hW : Below w2.heap.size w2 W) (hC : Cs W A2 mark.length c2 (turnB mark (t : Int))) => HEQ.out g o k A2 c2 _ W rfl hkm (nxt T2 hW) hC)
          have HE := Lib.hid (HE.out _ hbel2 hC2)
          clear hC2 hcs
          go_wp2_with (fail)
          refine HE.out.mono ?_
          rintro e w4 ⟨x, rfl, hx, T4⟩
          have T4 := nxt hbel2 T4
          cases x with
          | true =>
            have hSt : St l mark k t := hx.1 rfl
            have HF : Hid (FindR l mark k t true) := .inl ⟨rfl, hm0, hkm, h2, hSt, HM.out, HN.out⟩
            have TF := nxt T2 T4
            clear hx hSt
            go_wp2_with (fail)
            rw [Exit.noGoto_ret]
            go_ret3
            exact ⟨k, t, true, rfl, HF.out, TF⟩
          | false =>
            have HM2 : Hid (∀ u, u < t + 1 → ¬ St l mark k u) := fun u hu hs => by
              by_cases h4 : u < t
              · exact HM.out u h4 hs
              · obtain rfl : u = t := by omega
                exact absurd (hx.2 hs) (by simp)
            clear hx
            go_wp2
            go_roundw
            case rel => exact ⟨t + 1, by go_num, rfl, rfl, rfl, by omega, HM2.out, T4⟩
            case measure => simp [intOf]; omega
        · obtain rfl : t = 4 := by omega
          have d2 : decide (((4 : Nat) : Int) < 4) = false := by decide
          have HF : Hid (∀ b, b < k + 1 → ∀ u, u < 4 → ¬ St l mark b u) := fun b hb u hu hs => by
            by_cases h3 : b < k
            · exact HN.out b h3 u hu hs
            · obtain rfl : b = k := by omega
              exact HM.out u hu hs
          go_wp2
          go_roundw
          case rel => exact ⟨k + 1, by go_num, rfl, rfl, rfl, by omega, HF.out, hbel2⟩
          case measure => simp [intOf]; omega
    · obtain rfl : k = P := by omega
      have d1 : decide ((k : Int) < (k : Int)) = false := by simp
      have HF : Hid (FindR l mark 0 0 false) := .inr ⟨rfl, rfl, rfl, HP1.out.imp id (fun h b hb => HN.out b (h b hb))⟩
      have TF := nxt T2 hbel
      go_wp2
      go_ret3
      exact ⟨0, 0, false, rfl, HF.out, TF⟩
end Go.Proofs.YtkcpkfimmolkkaaDoor
